
/-
  The program's pegs: fewestOf, ComesFrom, FewestLeft, CanCome.
-/
import Derived.Test.YtgbbmnnpphkkbacPPegE
import Derived.Test.YtgbbmnnpphkkbacPPegL
namespace Go.Proofs.Ytgbbmnnpphkkbac
open Go.RowKit
set_option linter.unusedVariables false

/-- The numbers in order, as natural ones. -/
theorem asc_nat (L : List Nat) : ∃ M : List Nat, ascP (natI L) = natI M ∧ M.length = L.length ∧ ∀ y, y ∈ M ↔ y ∈ L := by
  have hperm : (ascP (natI L)).Perm (natI L) := by rw [ascP_eq]; exact List.mergeSort_perm _ _
  have hmem : ∀ z ∈ ascP (natI L), ∃ y : Nat, y ∈ L ∧ z = (y : Int) := fun z hz => by
    have := hperm.mem_iff.1 hz
    unfold natI at this
    obtain ⟨y, hy, e⟩ := List.mem_map.1 this
    exact ⟨y, hy, e.symm⟩
  refine ⟨(ascP (natI L)).map Int.toNat, ?_, ?_, fun y => ?_⟩
  · unfold natI
    rw [List.map_map]
    symm
    refine (List.map_congr_left fun z hz => ?_).trans (List.map_id _)
    obtain ⟨y, _, rfl⟩ := hmem z hz
    rfl
  · rw [List.length_map, hperm.length_eq, natI_len]
  · rw [List.mem_map]
    constructor
    · rintro ⟨z, hz, rfl⟩
      obtain ⟨y, hy, rfl⟩ := hmem z hz
      exact hy
    · intro hy
      exact ⟨(y : Int), hperm.mem_iff.2 (List.mem_map.2 ⟨y, hy, rfl⟩), rfl⟩

set_option maxHeartbeats 1000000 in
theorem fewestOf_c (n : Nat) (L : List Nat) (hn : n ≤ 12) (hL : ∀ y ∈ L, y < 2 ^ n) (h0 : 0 < L.length) (hm : L.length ≤ 4096) (A : Option Addr) (c : Nat) (W : World) (hr : Row W A (ints (natI L))) :
    Calls Try.prog 25 #[.slice A L.length c] W fun e w' => e = .returned (.int .i64 ((lstTo n L (cntB (L[0]?.getD 0) n) L.length : Nat) : Int)) ∧ W = w' := by
  have HE := hide (fun (k : Nat) (hk : k < L.length) w5 => show Calls Try.prog 41 #[.int .i64 ((L[k]?.getD 0 : Nat) : Int)] w5 fun e w' => e = .returned (.int .i64 ((cntB (L[k]?.getD 0) n : Nat) : Int)) ∧ w5 = w' by
    have hy : L[k]?.getD 0 < 2 ^ n := by rw [List.getElem?_eq_getElem hk]; exact hL _ (List.getElem_mem _)
    have := sizeOf_12P (L[k]?.getD 0) (peg_lt hn hy) w5
    rwa [pc_cnt hn hy] at this)
  have HC12 := hide (fun y => Nat.le_trans (cnt_le y n) hn)
  obtain ⟨ad, rfl, hc0⟩ := hr.int (k := 0) (by rw [natI_len]; exact h0)
  rw [natI_at] at hc0
  have hc0 : W.cell? ad = some (.int .i64 ((L[0]?.getD 0 : Nat) : Int)) := hc0
  have HE0 := hide (fun w5 => HE.out 0 h0 w5)
  have R2 := hide hr
  have hb12 := HC12.out (L[0]?.getD 0)
  clear hr hL
  generalize L[0]?.getD 0 = y0 at *
  generalize cntB y0 n = b at *
  have l0 : (0 : Int) < (L.length : Int) := by omega
  go_enter Try.func25, Try.ntmps25
  go_wp2_with fail
  refine (HE0.out _).mono ?_
  rintro e w1 ⟨rfl, rfl⟩
  clear hc0
  go_wp2_with fail
  go_loopw [3, 12] (fun v i wr => ∃ k : Nat, k ≤ L.length ∧ i = .int .i64 (k : Int) ∧ v = .int .i64 ((lstTo n L b k : Nat) : Int) ∧ W = wr) (fun _ i _ => L.length - (intOf i).toNat)
  case atStart => exact ⟨0, Nat.zero_le _, rfl, rfl, rfl⟩
  case round =>
    obtain ⟨k, hk, rfl, rfl, rfl⟩ := hrel
    have hbk := lst_most (n := n) (L := L) (b := b) k
    by_cases hlt : k < L.length
    · obtain ⟨ad', e', hck⟩ := R2.out.int (k := k) (by rw [natI_len]; exact hlt)
      injection e' with e'
      subst e'
      rw [natI_at] at hck
      have HEk := hide (fun w5 => HE.out k hlt w5)
      have hS := hide (show lstTo n L b (k + 1) = min (lstTo n L b k) (cntB (L[k]?.getD 0) n) from rfl)
      have hc := HC12.out (L[k]?.getD 0)
      have k0 : (0 : Int) ≤ (k : Int) := by omega
      have k1 : (k : Int) < (L.length : Int) := by omega
      generalize L[k]?.getD 0 = y at *
      generalize cntB y n = c at *
      generalize lstTo n L b k = a at *
      rcases Nat.le_total a c with hac | hac
      · have hac' : (a : Int) ≤ (c : Int) := by omega
        have HS := hide (hS.out.trans (Nat.min_eq_left hac))
        clear hS
        go_wp2_with fail
        refine (HEk.out _).mono ?_
        rintro e w3 ⟨rfl, rfl⟩
        go_wp2_with fail
        all_goals exact ⟨⟨k + 1, hlt, by go_num, by rw [HS.out]; first | rfl | (congr 1; omega) | (exact congrArg (Value.int .i64) (by omega)), trivial⟩, by simp [intOf]; omega⟩
      · have hac' : (c : Int) ≤ (a : Int) := by omega
        have HS := hide (hS.out.trans (Nat.min_eq_right hac))
        clear hS
        go_wp2_with fail
        refine (HEk.out _).mono ?_
        rintro e w3 ⟨rfl, rfl⟩
        go_wp2_with fail
        all_goals exact ⟨⟨k + 1, hlt, by go_num, by rw [HS.out]; first | rfl | (congr 1; omega) | (exact congrArg (Value.int .i64) (by omega)), trivial⟩, by simp [intOf]; omega⟩
    · obtain rfl : k = L.length := by omega
      go_wp2_with fail
      go_ret
      exact ⟨rfl, rfl⟩

theorem implComesFrom_c (bc br s : Int) (W : World) : Calls Try.prog 10 #[.int .i64 bc, .int .i64 br, .int .i64 s] W (Owns 3 1 (comesV bc br s).length (ints (comesV bc br s)) W) := by
  rcases lit1_c bc br s W with ⟨w, h, x, rfl, rfl, rfl, hw, hh, h12, hx, hC⟩ | ⟨hN, hC⟩
  · have HC := hide hC
    have HF := hide (fun w6 => comesFrom_c w h x w6 hw hh h12 hx)
    rw [comesV_nat hw hh h12 hx, asc_len, natI_len]
    generalize ascP (natI (comeL w (w * h) x)) = L at *
    generalize (comeL w (w * h) x).length = m at *
    clear hC hx hw hh h12
    go_enter Try.func10, Try.ntmps10
    go_wp2_with fail
    refine HC.out.mono ?_
    rintro e w1 ⟨rfl, b1⟩
    have hb1 : Below W.heap.size W w1 := below_then ((Below.refl _ _).alloc (Nat.le_refl _) _) (by simp) b1
    have hb2 := hb1.alloc hb1.size (.cells #[.int .i64 (w : Int), .int .i64 (h : Int)] 43)
    clear b1 HC
    go_wp2_with fail
    refine (HF.out _).mono ?_
    rintro e w2 ⟨v2, rfl, o2, b2⟩
    go_wp2_with fail
    go_ret
    exact ⟨v2, rfl, own_mono o2 hb2.size, below_then hb2 hb2.size b2⟩
  · have hc : comesV bc br s = [] := by unfold comesV; rw [if_neg hN]
    have HC := hide hC
    rw [hc]
    clear hC hc hN
    go_enter Try.func10, Try.ntmps10
    go_wp2_with fail
    refine HC.out.mono ?_
    rintro e w1 ⟨rfl, b1⟩
    have hb1 : Below W.heap.size W w1 := below_then ((Below.refl _ _).alloc (Nat.le_refl _) _) (by simp) b1
    go_wp2_with fail
    go_ret
    exact ⟨_, rfl, World.ownsRow_nil _ _ _ _, hb1.alloc hb1.size _⟩
theorem implFewestLeft_c (bc br s : Int) (W : World) : Calls Try.prog 8 #[.int .i64 bc, .int .i64 br, .int .i64 s] W (Plain (.int .i64 (fewV bc br s)) W) := by
  rcases lit1_c bc br s W with ⟨w, h, x, rfl, rfl, rfl, hw, hh, h12, hx, hC⟩ | ⟨hN, hC⟩
  · have HC := hide hC
    obtain ⟨M, hM, hMl, hMm⟩ := asc_nat (comeL w (w * h) x)
    have HF := hide (fun w6 => show Calls Try.prog 26 #[boardV (w : Int) (h : Int), .int .i64 (x : Int)] w6 (Owns 3 1 M.length (ints (natI M)) w6) by
      have := comesFrom_c w h x w6 hw hh h12 hx
      rwa [hM, ← hMl] at this)
    have hMc : ∀ y, y ∈ M ↔ Comes w (w * h) x y := fun y => (hMm y).trans (come_mem hw.1 hx)
    have hx0 : x ∈ M := (hMc x).2 .self
    have hM0 : 0 < M.length := List.length_pos_of_mem hx0
    have hfew : lstTo (w * h) M (cntB (M[0]?.getD 0) (w * h)) M.length = fewL w (w * h) x := few_any hw.1 hx hMc ⟨M[0], List.getElem_mem _, by rw [List.getElem?_eq_getElem hM0]; rfl⟩
    have HO := hide (fun (A : Option Addr) (c : Nat) w6 hr => fewestOf_c (w * h) M h12 (fun y hy => come_lt hw.1 hx ((hMm y).1 hy)) hM0 (by rw [hMl]; exact Nat.le_trans (come_len hw.1 hx) (pow12 h12).2) A c w6 hr)
    rw [hfew] at HO
    rw [fewV_nat hw hh h12 hx]
    generalize fewL w (w * h) x = res at *
    clear hC hx hw hh h12 hM hMl hMm hMc hx0 hM0 hfew
    go_enter Try.func8, Try.ntmps8
    go_wp2_with fail
    refine HC.out.mono ?_
    rintro e w1 ⟨rfl, b1⟩
    have hb1 : Below W.heap.size W w1 := below_then ((Below.refl _ _).alloc (Nat.le_refl _) _) (by simp) b1
    have hb2 := hb1.alloc hb1.size (.cells #[.int .i64 (w : Int), .int .i64 (h : Int)] 43)
    clear b1 HC
    go_wp2_with fail
    refine (HF.out _).mono ?_
    rintro e w2 ⟨v2, rfl, o2, b2⟩
    obtain ⟨A2, c2, rfl, _, _, r2, _⟩ := own_row o2
    go_wp2_with fail
    refine (HO.out _ _ _ r2).mono ?_
    rintro e w3 ⟨rfl, rfl⟩
    go_wp2_with fail
    go_ret
    exact ⟨rfl, below_then hb2 hb2.size b2⟩
  · have hc : fewV bc br s = -1 := by unfold fewV; rw [if_neg hN]
    have HC := hide hC
    rw [hc]
    clear hC hc hN
    go_enter Try.func8, Try.ntmps8
    go_wp2_with fail
    refine HC.out.mono ?_
    rintro e w1 ⟨rfl, b1⟩
    have hb1 : Below W.heap.size W w1 := below_then ((Below.refl _ _).alloc (Nat.le_refl _) _) (by simp) b1
    go_wp2_with fail
    go_ret
    exact ⟨rfl, hb1.alloc hb1.size _⟩
theorem asc_has (L : List Nat) (b : Nat) : (ascP (natI L)).contains (b : Int) = L.contains b := by
  have hperm : (ascP (natI L)).Perm (natI L) := by rw [ascP_eq]; exact List.mergeSort_perm _ _
  rw [← natI_has, Bool.eq_iff_iff, List.contains_iff_mem, List.contains_iff_mem]
  exact hperm.mem_iff
theorem implCanCome_c (bc br a b : Int) (W : World) : Calls Try.prog 14 #[.int .i64 bc, .int .i64 br, .int .i64 a, .int .i64 b] W (Plain (.bool (canV bc br a b)) W) := by
  rcases litBoard_cP bc br (some ⟨W.heap.size, 0, none⟩) 2 [a, b] (W.alloc (.cells #[.int .i64 a, .int .i64 b] 3)) (row_new W #[.int .i64 a, .int .i64 b] 3 rfl) (by simp) with ⟨w, h, rfl, rfl, hw, hh, h12, hS, hC⟩ | ⟨hN, hC⟩
  · obtain ⟨x, rfl⟩ := Int.eq_ofNat_of_zero_le (hS 0 (by simp)).1
    obtain ⟨y, rfl⟩ := Int.eq_ofNat_of_zero_le (hS 1 (by simp)).1
    have hx : x < 2 ^ (w * h) := by have h0 := (hS 0 (by simp)).2; have p := Nat.two_pow_pos (w * h); simp only [List.getElem?_cons_zero, Option.getD_some] at h0; omega
    have hy : y < 2 ^ (w * h) := by have h0 := (hS 1 (by simp)).2; have p := Nat.two_pow_pos (w * h); simp only [List.getElem?_cons_succ, List.getElem?_cons_zero, Option.getD_some] at h0; omega
    have HC := hide hC
    have HF := hide (fun w6 => comesFrom_c w h x w6 hw hh h12 hx)
    rw [canV_nat hw hh h12 hx hy]
    have hL := hide (asc_has (comeL w (w * h) x) y)
    have hl : (ascP (natI (comeL w (w * h) x))).length = (comeL w (w * h) x).length := by rw [asc_len, natI_len]
    have hm := Nat.le_trans (come_len hw.1 hx) (pow12 h12).2
    rw [← hl] at HF
    rw [← hL.out]
    have hm' : (ascP (natI (comeL w (w * h) x))).length ≤ 4096 := by omega
    generalize ascP (natI (comeL w (w * h) x)) = L at *
    have HO := hide (fun (O : Option Addr) (c : Nat) w6 (hr : Row w6 O (ints L)) (hf : FlatP O) => contains_cP O L c (y : Int) w6 hr hf (by unfold maxLen; omega))
    clear hC hS hx hy hw hh h12 hL hl hm
    go_enter Try.func14, Try.ntmps14
    go_wp2_with fail
    refine HC.out.mono ?_
    rintro e w1 ⟨rfl, b1⟩
    have hb1 : Below W.heap.size W w1 := below_then ((Below.refl _ _).alloc (Nat.le_refl _) _) (by simp) b1
    have hb2 := hb1.alloc hb1.size (.cells #[.int .i64 (w : Int), .int .i64 (h : Int)] 43)
    clear b1 HC
    go_wp2_with fail
    refine (HF.out _).mono ?_
    rintro e w2 ⟨v2, rfl, o2, b2⟩
    obtain ⟨A2, c2, rfl, _, _, r2, f2⟩ := own_row o2
    have f2' : FlatP A2 := fun ad e => by obtain ⟨g, rfl, _⟩ := f2 ad e; exact ⟨_, _, rfl⟩
    go_wp2_with fail
    refine (HO.out _ _ _ r2 f2').mono ?_
    rintro e w3 ⟨rfl, b3⟩
    go_wp2_with fail
    go_ret
    exact ⟨show Ending.returned (.bool (decide ((y : Int) ∈ L))) = _ from ret_bool (by rw [List.contains_eq_mem]), below_then (below_then hb2 hb2.size b2) (below_then hb2 hb2.size b2).size b3⟩
  · have hc : canV bc br a b = false := by
      unfold canV
      by_cases hA : PegS bc br a
      · by_cases hB : PegS bc br b
        · exfalso
          rcases hN with hN | hN
          · refine hN fun i hi => ?_
            have : i = 0 ∨ i = 1 := by simp at hi; omega
            rcases this with rfl | rfl
            · exact hA
            · exact hB
          · exact hN hA.1
        · rw [decide_eq_false hB]; simp
      · rw [decide_eq_false hA]; simp
    have HC := hide hC
    rw [hc]
    clear hC hc hN
    go_enter Try.func14, Try.ntmps14
    go_wp2_with fail
    refine HC.out.mono ?_
    rintro e w1 ⟨rfl, b1⟩
    have hb1 : Below W.heap.size W w1 := below_then ((Below.refl _ _).alloc (Nat.le_refl _) _) (by simp) b1
    go_wp2_with fail
    go_ret
    exact ⟨rfl, hb1.alloc hb1.size _⟩
end Go.Proofs.Ytgbbmnnpphkkbac
