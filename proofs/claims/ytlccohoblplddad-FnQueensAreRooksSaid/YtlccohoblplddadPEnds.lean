
/-
  The program's EndsOf: the rows that begin with some, counted.
-/
import Derived.Test.YtlccohoblplddadPCollect
import Derived.Test.YtlccohoblplddadQueenC
namespace Go.Proofs.Ytlccohoblplddad
open Go.RowKit Go.Shelf
set_option linter.unusedVariables false
attribute [local go_sem] Oper.semAt_some

theorem flat_one {α : Type} (f : Nat → List α) (c : Nat) : ∀ n, (∀ i, i < n → i ≠ c → f i = []) → (List.range n).flatMap f = if c < n then f c else []
  | 0, _ => by simp
  | n + 1, h => by
    rw [List.range_succ, List.flatMap_append, flat_one f c n (fun i hi => h i (by omega))]
    by_cases e : c = n
    · subst e
      simp
    · have h0 := h n (by omega) (fun e' => e e'.symm)
      by_cases hl : c < n
      · rw [if_pos hl, if_pos (by omega)]; simp [h0]
      · rw [if_neg hl, if_neg (by omega)]; simp [h0]
theorem rows_behind (n : Nat) (l : List Int) : ∀ m head, l.length ≤ head.length → rowsP n (fitP l) m head = queensP n m head
  | 0, _, _ => rfl
  | m + 1, head, h => by
    have hf : ∀ c : Int, fitP l head c = apartP head c := fun c => by unfold fitP; rw [if_neg (fun h' => by have := h'.1; omega)]
    have hr : ∀ c : Nat, rowsP n (fitP l) m (head ++ [(c : Int)]) = queensP n m (head ++ [(c : Int)]) := fun c => rows_behind n l m _ (by simp; omega)
    simp only [rowsP, queensP, hf, hr]
def apartFrom (l : List Int) (j : Nat) : Prop := ∀ i, i < l.length → j ≤ i → apartP (l.take i) (l[i]?.getD 0) = true
instance (l : List Int) (j : Nat) : Decidable (apartFrom l j) := by unfold apartFrom; infer_instance
theorem rows_from (n : Nat) (l : List Int) (hn : l.length ≤ n) (hc : ∀ i, i < l.length → 0 ≤ l[i]?.getD 0 ∧ l[i]?.getD 0 < (n : Int)) : ∀ d j, j + d = l.length → rowsP n (fitP l) (n - j) (l.take j) = if apartFrom l j then queensP n (n - l.length) l else []
  | 0, j, h => by
    obtain rfl : j = l.length := by omega
    rw [if_pos (show apartFrom l l.length from fun i h1 h2 => by omega), List.take_of_length_le (Nat.le_refl _)]
    exact rows_behind n l _ _ (Nat.le_refl _)
  | d + 1, j, h => by
    have hj : j < l.length := by omega
    obtain ⟨h0, h1⟩ := hc j hj
    obtain ⟨c, hcx⟩ := Int.eq_ofNat_of_zero_le h0
    have hlt : (l.take j).length = j := by rw [List.length_take]; omega
    rw [show n - j = (n - (j + 1)) + 1 by omega, rowsP]
    have hfit : ∀ x : Int, fitP l (l.take j) x = if x = (c : Int) then apartP (l.take j) x else false := fun x => by
      unfold fitP
      rw [hlt, ← hcx]
      by_cases e : x = l[j]?.getD 0
      · rw [if_neg (fun h => h.2 e), if_pos e]
      · rw [if_pos ⟨hj, e⟩, if_neg e]
    have hfc : ∀ i : Nat, i ≠ c → fitP l (l.take j) (i : Int) = false := fun i hne => by rw [hfit, if_neg]; intro h; exact hne (Int.ofNat_inj.1 h)
    rw [flat_one _ c n (fun i _ hne => by rw [hfc i hne]; rfl), if_pos (by omega), hfit, if_pos rfl, ← hcx, ← take_snoc l j hj, rows_from n l hn hc d (j + 1) (by omega)]
    by_cases ha : apartP (l.take j) (l[j]?.getD 0) = true
    · rw [if_pos ha]
      by_cases hf : apartFrom l (j + 1)
      · rw [if_pos hf, if_pos (show apartFrom l j from fun i h1 h2 => by
          by_cases e : i = j
          · subst e; exact ha
          · exact hf i h1 (by omega))]
      · rw [if_neg hf, if_neg (show ¬ apartFrom l j from fun h => hf (fun i h1 h2 => h i h1 (by omega)))]
    · rw [if_neg ha, if_neg (show ¬ apartFrom l j from fun h => ha (h j hj (Nat.le_refl _)))]
theorem ends_rows {n : Int} {l : List Int} (h : Stand n l) : ((rowsP n.toNat (fitP l) n.toNat []).length : Int) = endsP n l := by
  have := rows_from n.toNat l (by have := h.2.1; have := h.1; omega) (fun i hi => by have := h.2.2 i hi; have := h.1; omega) l.length 0 (by omega)
  rw [List.take_zero, Nat.sub_zero] at this
  rw [this]
  unfold endsP
  rw [if_pos h]
  by_cases ha : apartsTo l l.length
  · rw [if_pos ha, if_pos (show apartFrom l 0 from fun i h1 _ => ha i h1)]
  · rw [if_neg ha, if_neg (show ¬ apartFrom l 0 from fun h' => ha (fun i hi => h' i hi (Nat.zero_le _)))]; rfl
theorem rows_count (n : Nat) (fit : List Int → Int → Bool) : ∀ m head, (rowsP n fit m head).length ≤ n ^ m
  | 0, _ => by simp [rowsP]
  | m + 1, head => by
    rw [rowsP, Nat.pow_succ, Nat.mul_comm]
    refine flat_len _ (n ^ m) n fun c => ?_
    split
    · exact rows_count n fit m _
    · simp

set_option maxHeartbeats 2000000 in
set_option maxRecDepth 100000 in
theorem implEndsOf_c (n : Int) (A : Option Addr) (c : Nat) (l : List Int) (w : World) (hr : Row w A (ints l)) (hm : l.length ≤ 1048576) :
    Calls Try.prog 18 #[.int .i64 n, .slice A l.length c] w (Plain (.int .i64 (endsP n l)) w) := by
  have HV := hide (areColumns_c n A c l w hr hm)
  by_cases hs : Stand n l
  · rw [decide_eq_true hs] at HV
    have HEN := hide (ends_rows hs)
    have hl6 : l.length ≤ 6 := by have := hs.1; have := hs.2.1; omega
    obtain ⟨hn1, hn6⟩ := hs.1
    obtain ⟨k, rfl⟩ := Int.eq_ofNat_of_zero_le (show 0 ≤ n by omega)
    have h1 : 1 ≤ k := by omega
    have h6 : k ≤ 6 := by omega
    have hcount : (rowsP k (fitP l) k []).length ≤ 1000000 := Nat.le_trans (rows_count k _ k []) (Nat.le_trans (Nat.pow_le_pow_left h6 k) (Nat.le_trans (Nat.pow_le_pow_right (n := 6) (by omega) h6) (by decide)))
    have HEN2 : Hid (endsP (k : Int) l = ((rowsP k (fitP l) k []).length : Int)) := HEN.out.symm
    rw [HEN2.out]
    have hb1 : Below w.heap.size w (w.alloc (.cells #[.int .i64 0] 3)) := (Below.refl _ w).alloc (Nat.le_refl _) _
    have bX : Boxed (w.alloc (.cells #[.int .i64 0] 3)) w.heap.size 3 (.int .i64 0) := Boxed.new w 3 (.int .i64 0)
    have z1 : (w.alloc (.cells #[.int .i64 0] 3)).heap.size = w.heap.size + 1 := by simp
    have hr1 := hr.below hb1
    have HQ := hide (queensBehind_c (k : Int) A l.length c (w.alloc (.cells #[.int .i64 0] 3)))
    have HO := hide (fun w' hw => behind_offer k h1 h6 l hl6 A c (w.alloc (.cells #[.int .i64 0] 3)) w' hr1 hw)
    clear HEN hs
    refine (callsIn_wide (n := 9)).1 (callsIn_of_wp_marks Try.func18 rfl trivial ?_)
    simp only [Try.ntmps18, List.size_toArray, List.length_cons, List.length_nil, Nat.reduceAdd, Nat.reduceSub, Array.replicate_succ, Array.replicate_zero, List.push_toArray, List.append_toArray, List.nil_append, List.cons_append]
    gi_wp2
    refine ⟨trivial, (callsIn_wide.2 HV.out).mono ?_⟩
    rintro e w1 ⟨rfl, rfl⟩
    gi_wp2
    refine ⟨trivial, (callsIn_wide.2 HQ.out).mono ?_⟩
    rintro e w2 ⟨rfl, hw2⟩
    obtain ⟨b2, z2, off⟩ := HO.out w2 hw2
    have bw2 := below_then hb1 hb1.size b2
    have bX2 : Boxed w2 w.heap.size 3 (.int .i64 0) := (b2.block _ (by omega)).trans bX
    rw [z1] at off
    clear hw2 HO HQ HV
    generalize rowsP k (fitP l) k [] = L at *
    gi_wp2
    refine range_offers (gf := 58) rfl (enters_of Try.func58 (by kernel_rfl) rfl) off rfl
      (fun pre S W => S = (fun g => g = w.heap.size) ∧ Boxed W w.heap.size 3 (.int .i64 (pre.length : Int)) ∧ Below w.heap.size w W) (fun g => g = w.heap.size)
      ?abide ?bounded ?guard ⟨rfl, bX2, bw2⟩
      (fun v => { tmps := #[.int .i64 (k : Int), .slice A l.length c, undef, undef, .int .i64 0, .pointer (some ⟨w.heap.size, 0, none⟩), .int .i64 (k : Int), .slice A l.length c, .bool true, .bool false, .int .i64 (k : Int), .slice A l.length c,
        .func (.func 58) #[] #[.pointer (some ⟨w.heap.size + 1 + 2, 0, none⟩), .pointer (some ⟨w.heap.size + 1 + 1, 0, none⟩), .pointer (some ⟨w.heap.size + 1 + 3, 0, none⟩)], v, undef, undef, undef], defers := [] }) ?assign ?body ?done
    case abide =>
      rintro s X Y row ⟨hS, hv, hb⟩ hg hrow
      refine ⟨hS, hv.kept hg (fun e => ?_), hb.grown hg hb.size (fun k e => by have := (hrow k e).1; have := bw2.size; omega)⟩
      obtain ⟨_, o', ho', hc'⟩ := hrow _ e.symm
      rw [show X.heap[w.heap.size]? = _ from hv] at ho'
      cases ho'; cases hc'
    case bounded =>
      rintro pre S W ⟨rfl, hv, _⟩ g rfl
      exact hv.lt
    case guard =>
      rintro g (rfl | rfl | rfl | rfl | ⟨ad, e, _⟩ | ⟨ad, e, rfl⟩) h
      · omega
      · omega
      · omega
      · omega
      · cases e
      · by_cases hl : l = []
        · rw [if_pos hl] at e; cases e
        · rw [if_neg hl] at e
          subst e
          obtain ⟨ad', e', hc⟩ := hr 0 (by cases l with | nil => exact absurd rfl hl | cons _ _ => simp)
          injection e' with e'
          subst e'
          have := World.block_lt_of_cell? _ _ hc
          rw [addr_block] at this
          omega
    case assign =>
      intro l' v W K hK
      refine wpIn_skip ?_
      show K _ _
      simpa using hK
    case body =>
      rintro l' pre S x Ax cx W hsz ⟨hS, hv, hb⟩ hx hpre
      have hc := hv.cell
      have hf := hv.frozen
      have hpl : pre.length + 1 ≤ L.length := by have := hpre.length_le; simpa using this
      gi_wp2
      refine ⟨S, ⟨(KeepsOthers.setCell _ _ _).size, fun g o ho hco hn he => ⟨?_, hn⟩, fun g o _ ho hco => (KeepsOthers.setCell _ _ _).same g o ho hco⟩, hS, ?_, hb.setCell (p := ⟨w.heap.size, 0, none⟩) (Nat.le_refl _) _⟩
      · rw [Below.heap_setCell W ⟨w.heap.size, 0, none⟩ _ g (fun e => hn (by rw [hS]; exact e))]; exact ho
      · have := hv.set (.int .i64 ((pre.length : Int) + 1))
        simpa using this
    case done =>
      rintro D' S W hD ⟨hS, hv, hb⟩ hDx
      have hc := hv.cell
      gi_wp2
      refine ⟨by simp, .inl ⟨D', _, rfl, run_takeDeferred hDx, ?_⟩⟩
      exact ⟨_, results_tmp rfl _ _ _, rfl, hb.trans (belowK_b (w := w) (Nat.le_refl _) W D' _ _ (by have := bw2.size; omega) hDx rfl rfl)⟩
  · rw [decide_eq_false hs] at HV
    have HE : Hid (endsP n l = -1) := by show _ = _; unfold endsP; rw [if_neg hs]
    rw [HE.out]
    clear hs HE
    refine (callsIn_wide (n := 9)).1 (callsIn_of_wp_marks Try.func18 rfl trivial ?_)
    simp only [Try.ntmps18, List.size_toArray, List.length_cons, List.length_nil, Nat.reduceAdd, Nat.reduceSub, Array.replicate_succ, Array.replicate_zero, List.push_toArray, List.append_toArray, List.nil_append, List.cons_append]
    gi_wp2
    refine ⟨trivial, (callsIn_wide.2 HV.out).mono ?_⟩
    rintro e w1 ⟨rfl, rfl⟩
    gi_wp2
    exact ⟨_, results_tmp rfl _ _ _, rfl, Below.refl _ _⟩
end Go.Proofs.Ytlccohoblplddad
