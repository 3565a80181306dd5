
/-
  The program's KindsOfQueens.
-/
import Derived.Test.YtlccohoblplddadPFirstC
namespace Go.Proofs.Ytlccohoblplddad
open Go.RowKit Go.Shelf
set_option linter.unusedVariables false
attribute [local go_sem] Oper.semAt_some

set_option maxHeartbeats 400000 in
theorem equal_c (A C : Option Addr) (xs ys : List Int) (ca cc : Nat) (w : World) (ha : Row w A (ints xs)) (hc : Row w C (ints ys)) (hn : xs.length ≤ 1048576) (hl : xs.length = ys.length) :
    Calls Try.prog 37 #[.slice A xs.length ca, .slice C ys.length cc] w (Plain (.bool (decide (xs = ys))) w) := by
  have hl' : ((xs.length : Int) != (ys.length : Int)) = false := by simp [hl]
  have HL := hide hl
  clear hl
  go_enter Try.func37, Try.ntmps37
  go_wp2
  go_loopw [13] (fun i wr => ∃ (k n : Nat), k ≤ xs.length ∧ i = .int .i64 k ∧ Hid (xs.take k = ys.take k) ∧ wr = w.drewN n) (fun i _ => xs.length - (intOf i).toNat)
  case atStart => exact ⟨0, 0, Nat.zero_le _, rfl, rfl, rfl⟩
  case round =>
    obtain ⟨k, n, hk, rfl, he, rfl⟩ := hrel
    by_cases hlt : k < xs.length
    · have hlt2 : k < ys.length := HL.out ▸ hlt
      obtain ⟨ad, rfl, hca⟩ := ha.int hlt
      obtain ⟨ad', rfl, hcc⟩ := hc.int hlt2
      go_wp2
      go_quiet (fail)
      all_goals go_wp2
      · have h1 : (xs[k] != ys[k]) = true := by assumption
        go_ret
        exact ⟨ret_bool (by symm; simp only [decide_eq_false_iff_not]; rintro rfl; simp at h1), below_drewN (below_drewN (Below.refl _ _) _) _⟩
      · have h1 : (xs[k] != ys[k]) = false := by assumption
        exact ⟨⟨k + 1, n + nq, hlt, by go_num, eqlist_step hlt HL.out he.out (by simp [hlt, hlt2]; simpa using h1), rfl⟩, by simp [intOf]; omega⟩
    · have hk2 : Hid (k = xs.length) := hide (by omega)
      go_wp2
      go_ret
      exact ⟨ret_bool (by have e := he.out; rw [hk2.out, List.take_of_length_le (Nat.le_refl _), List.take_of_length_le (by rw [HL.out]; exact Nat.le_refl _)] at e; simpa using e.symm ▸ rfl), below_drewN (Below.refl _ _) _⟩
theorem less_same : ∀ n : Fin 7, 1 ≤ n.val → (queensP n.val n.val []).all (fun x => lessP (firstP x) x == !(decide (x = firstP x))) = true := by decide +kernel
theorem below_keep {E : Blocks} {B : Nat} {S : Blocks} {w w' : World} (h : Below w.heap.size w w') : Keep E B S w S w' := Keep.grow (grown_below h)

set_option maxHeartbeats 2000000 in
set_option maxRecDepth 100000 in
theorem implKinds_c (n : Int) (w : World) : Calls Try.prog 20 #[.int .i64 n] w (Plain (.int .i64 (kindsP n)) w) := by
  have HT := hide (fun w5 => fitQueens_c n w5)
  by_cases h : 1 ≤ n ∧ n ≤ 6
  · rw [decide_eq_true h] at HT
    obtain ⟨k, rfl⟩ := Int.eq_ofNat_of_zero_le (show 0 ≤ n by omega)
    have HL : Hid (kindsP (k : Int) = (kindsTo (queensP k k []) (queensP k k []).length : Int)) := by show _ = _; unfold kindsP; rw [if_pos h]; rfl
    have h1 : 1 ≤ k := by omega
    have h6 : k ≤ 6 := by omega
    have HOK := hide (fun (x : List Int) (hx : x ∈ queensP k k []) => show ImgOk x by
      have := queens_ok ⟨k, by omega⟩ h1
      rw [List.all_eq_true] at this
      exact of_decide_eq_true (this x hx))
    have HSAME := hide (fun (x : List Int) (hx : x ∈ queensP k k []) => show lessP (firstP x) x = !(decide (x = firstP x)) by
      have := less_same ⟨k, by omega⟩ h1
      rw [List.all_eq_true] at this
      exact beq_iff_eq.1 (this x hx))
    have HN : (queensP k k []).length ≤ 46656 := Nat.le_trans (queens_len k k []) (by
      have := Nat.le_trans (Nat.pow_le_pow_left h6 k) (Nat.pow_le_pow_right (n := 6) (by omega) h6)
      exact this)
    rw [HL.out]
    have hb1 : Below w.heap.size w (w.alloc (.cells #[.int .i64 0] 3)) := (Below.refl _ w).alloc (Nat.le_refl _) _
    have bX : Boxed (w.alloc (.cells #[.int .i64 0] 3)) w.heap.size 3 (.int .i64 0) := Boxed.new w 3 (.int .i64 0)
    have z1 : (w.alloc (.cells #[.int .i64 0] 3)).heap.size = w.heap.size + 1 := by simp
    have HQ := hide (queensBehind_c (k : Int) none 0 0 (w.alloc (.cells #[.int .i64 0] 3)))
    have HO := hide (fun w' hw => behind_offer k h1 h6 [] (by simp) none 0 (w.alloc (.cells #[.int .i64 0] 3)) w' (Row.empty _ _) hw)
    rw [fitP_nil, rowsP_queens] at HO
    generalize queensP k k [] = L at *
    clear h HL
    refine (callsIn_wide (n := 9)).1 (callsIn_of_wp_marks Try.func20 rfl trivial ?_)
    simp only [Try.ntmps20, List.size_toArray, List.length_cons, List.length_nil, Nat.reduceAdd, Nat.reduceSub, Array.replicate_succ, Array.replicate_zero, List.push_toArray, List.append_toArray, List.nil_append, List.cons_append]
    gi_wp2
    refine ⟨trivial, (callsIn_wide.2 (HT.out _)).mono ?_⟩
    rintro e w1 ⟨rfl, rfl⟩
    gi_wp2
    refine ⟨trivial, (callsIn_wide.2 HQ.out).mono ?_⟩
    rintro e w2 ⟨rfl, hw2⟩
    obtain ⟨b2, z2, off⟩ := HO.out w2 hw2
    have bw2 := below_then hb1 hb1.size b2
    have bX2 : Boxed w2 w.heap.size 3 (.int .i64 0) := (b2.block _ (by omega)).trans bX
    rw [z1] at off
    clear hw2 HO HQ HT
    gi_wp2
    refine range_offers (gf := 58) rfl (enters_of Try.func58 (by kernel_rfl) rfl) off rfl
      (fun pre S W => S = (fun g => g = w.heap.size) ∧ Boxed W w.heap.size 3 (.int .i64 (kindsTo L pre.length : Int)) ∧ Below w.heap.size w W) (fun g => g = w.heap.size)
      ?abide ?bounded ?guard ⟨rfl, bX2, bw2⟩
      (fun v => { tmps := #[.int .i64 (k : Int), undef, .int .i64 0, .pointer (some ⟨w.heap.size, 0, none⟩), v, .int .i64 (k : Int), .bool true, .bool false, .int .i64 (k : Int),
        .func (.func 58) #[] #[.pointer (some ⟨w.heap.size + 1 + 2, 0, none⟩), .pointer (some ⟨w.heap.size + 1 + 1, 0, none⟩), .pointer (some ⟨w.heap.size + 1 + 3, 0, none⟩)], v, undef, undef, undef, undef, undef, undef, undef], defers := [] }) ?assign ?body ?done
    case abide =>
      rintro s X Y row ⟨hS, hv, hb⟩ hg hrow
      refine ⟨hS, hv.kept hg (fun e => ?_), hb.grown hg hb.size (fun k e => by have := (hrow k e).1; have := bw2.size; omega)⟩
      obtain ⟨_, o', ho', hc'⟩ := hrow _ e.symm
      rw [show X.heap[w.heap.size]? = _ from hv] at ho'
      cases ho'; cases hc'
    case bounded =>
      rintro pre S W ⟨rfl, hv, _⟩ g rfl
      exact hv.lt
    case guard =>
      rintro g (rfl | rfl | rfl | rfl | ⟨ad, e, _⟩ | ⟨ad, e, rfl⟩) h
      · omega
      · omega
      · omega
      · omega
      · cases e
      · simp at e
    case assign =>
      intro l' v W K hK
      gi_wp2
      exact hK
    case body =>
      rintro l' pre S x Ax cx W hsz ⟨hS, hv, hb⟩ hx hpre
      have hpl : pre.length + 1 ≤ L.length := by have := hpre.length_le; simpa using this
      obtain ⟨hxm, hxat⟩ : x ∈ L ∧ L[pre.length]?.getD [] = x := by
        obtain ⟨t, ht⟩ := hpre
        subst ht
        exact ⟨by simp, by simp⟩
      have hok := HOK.out x hxm
      have hfl := firstP_len hok
      have hx6 := hok.1.2
      have HF := hide (firstImage_c Ax cx x W (own_reads hx.1) hok)
      have HK : Hid (kindsTo L (pre.length + 1) = if decide (x = firstP x) = true then kindsTo L pre.length + 1 else kindsTo L pre.length) := by
        show _ = _
        rw [kindsTo, hxat, HSAME.out x hxm]
        by_cases e : x = firstP x
        · rw [if_neg (by rw [decide_eq_true e]; simp), if_pos (decide_eq_true e)]
        · rw [if_pos (by rw [decide_eq_false e]; rfl), if_neg (by rw [decide_eq_false e]; simp)]
      have HEQ := hide (fun (A' : Option Addr) (c' : Nat) (w5 : World) (h5 : Row w5 Ax (ints x)) (h6 : Row w5 A' (ints (firstP x))) => show Calls Try.prog 37 #[.slice Ax x.length cx, .slice A' x.length c'] w5 (Plain (.bool (decide (x = firstP x))) w5) by
        have := equal_c Ax A' x (firstP x) cx c' w5 h5 h6 (by omega) hfl.symm
        rwa [hfl] at this)
      have hkl := kindsTo_le L pre.length
      have HX := hide hx.1
      clear hx hok hfl hxat hpre
      obtain ⟨b, hbv⟩ : ∃ b, decide (x = firstP x) = b := ⟨_, rfl⟩
      rw [hbv] at HK HEQ
      clear hbv
      generalize firstP x = fi at *
      gi_wp2
      refine ⟨trivial, (CallsIn.inRound l' (callsIn_wide.2 HF.out)).mono ?_⟩
      rintro e w3 ⟨v3, rfl, o3, b3⟩
      obtain ⟨A3, c3, rfl, _⟩ := own_row o3
      have HE := hide (HEQ.out A3 c3 w3 ((own_reads HX.out).below b3) (own_reads o3))
      gi_wp2
      refine ⟨trivial, (CallsIn.inRound l' (callsIn_wide.2 HE.out)).mono ?_⟩
      rintro e w4 ⟨rfl, b4⟩
      have b34 := below_then b3 b3.size b4
      have hv4 : Boxed w4 w.heap.size 3 (.int .i64 (kindsTo L pre.length : Int)) := (b34.block _ hv.lt).trans hv
      have hb4 := below_then hb hb.size b34
      have hc4 := hv4.cell
      have hf4 := hv4.frozen
      have k4 : ∀ (E : Blocks) (B : Nat), Keep E B S W S w4 := fun E B => below_keep b34
      cases b with
      | true =>
        have hkk : kindsTo L (pre.length + 1) = kindsTo L pre.length + 1 := by rw [HK.out, if_pos rfl]
        have HKK := hide hkk
        clear hkk
        gi_wp2
        refine ⟨S, (k4 _ _).trans ⟨(KeepsOthers.setCell _ _ _).size, fun g o ho hco hn he => ⟨?_, hn⟩, fun g o _ ho hco => (KeepsOthers.setCell _ _ _).same g o ho hco⟩, hS, ?_, hb4.setCell (p := ⟨w.heap.size, 0, none⟩) (Nat.le_refl _) _⟩
        · rw [Below.heap_setCell w4 ⟨w.heap.size, 0, none⟩ _ g (fun e => hn (by rw [hS]; exact e))]; exact ho
        · have := hv4.set (.int .i64 ((kindsTo L pre.length : Int) + 1))
          rw [List.length_append, List.length_singleton, HKK.out]
          simpa using this
      | false =>
        have HKK : Hid (kindsTo L (pre.length + 1) = kindsTo L pre.length) := by show _ = _; rw [HK.out, if_neg (by simp)]
        gi_wp2
        exact ⟨S, k4 _ _, hS, by rw [List.length_append, List.length_singleton, HKK.out]; exact hv4, hb4⟩
    case done =>
      rintro D' S W hD ⟨hS, hv, hb⟩ hDx
      have hc := hv.cell
      gi_wp2
      refine ⟨by simp, .inl ⟨D', _, rfl, run_takeDeferred hDx, ?_⟩⟩
      exact ⟨_, results_tmp rfl _ _ _, rfl, hb.trans (belowK_b (w := w) (Nat.le_refl _) W D' _ _ (by have := bw2.size; omega) hDx rfl rfl)⟩
  · rw [decide_eq_false h] at HT
    have HL : Hid (kindsP n = -1) := by show _ = _; unfold kindsP; rw [if_neg h]
    rw [HL.out]
    clear h HL
    refine (callsIn_wide (n := 9)).1 (callsIn_of_wp_marks Try.func20 rfl trivial ?_)
    simp only [Try.ntmps20, List.size_toArray, List.length_cons, List.length_nil, Nat.reduceAdd, Nat.reduceSub, Array.replicate_succ, Array.replicate_zero, List.push_toArray, List.append_toArray, List.nil_append, List.cons_append]
    gi_wp2
    refine ⟨trivial, (callsIn_wide.2 (HT.out _)).mono ?_⟩
    rintro e w1 ⟨rfl, rfl⟩
    gi_wp2
    exact ⟨_, results_tmp rfl _ _ _, rfl, Below.refl _ _⟩
end Go.Proofs.Ytlccohoblplddad
