
/-
  The drawn arguments of the functions of chapter 8.
-/
import Derived.Test.YtgbbmnnpphkkbacDrawL
import Derived.Test.YtgbbmnnpphkkbacPegE
namespace Go.Proofs.Ytgbbmnnpphkkbac
open Go.RowKit
set_option linter.unusedVariables false

set_option maxHeartbeats 1000000 in
theorem drawJumpsOf_c (A : Option Addr) (n c : Nat) (w : World) (h : Code w A n c) : Calls Try.prog 18 #[.slice A n c] w (DrawnLights w) := by
  have HC := hide (newReader_c A n c w h)
  clear h
  go_enter Try.func18, Try.ntmps18
  go_wp2_with fail
  refine HC.out.mono ?_
  rintro e w1 ⟨R, rfl, rd, hb⟩
  have hR : w.heap.size ≤ R := by obtain ⟨_, _, _, _, _, _, _, h, _⟩ := rd; exact h
  go_wp2_with fail
  refine (smallBoard_c 12 R _ 0 w1 rd (by omega) (by omega) (by omega)).mono ?_
  rintro e w2 ⟨x, y, rfl, hx, hy, rd2, hg2⟩
  obtain ⟨p1, p2⟩ := prod_bd hx hy
  have e0 : IntKind.i64.wrap (x * y) = x * y := IntWalk.i64_in _ (by omega)
  obtain ⟨p, hp⟩ : ∃ p, x * y = p := ⟨_, rfl⟩
  replace e0 := e0.trans hp
  rw [hp] at p1 p2
  clear hp
  go_wp2_with fail
  refine (aSet_c p R _ _ w2 rd2 (by omega) (by omega) (by omega)).mono ?_
  rintro e w3 ⟨l, rfl, hl, rd3, hg3⟩
  have hg3 := hg2.trans hg3
  go_wp2_with fail
  go_ret3
  exact ⟨x, y, l, rfl, hx, hy, hl, below_reader hb hR hg3⟩
set_option maxHeartbeats 1000000 in
theorem drawFewestLeft_c (A : Option Addr) (n c : Nat) (w : World) (h : Code w A n c) : Calls Try.prog 7 #[.slice A n c] w (DrawnLights w) := by
  have HC := hide (newReader_c A n c w h)
  clear h
  go_enter Try.func7, Try.ntmps7
  go_wp2_with fail
  refine HC.out.mono ?_
  rintro e w1 ⟨R, rfl, rd, hb⟩
  have hR : w.heap.size ≤ R := by obtain ⟨_, _, _, _, _, _, _, h, _⟩ := rd; exact h
  go_wp2_with fail
  refine (smallBoard_c 12 R _ 0 w1 rd (by omega) (by omega) (by omega)).mono ?_
  rintro e w2 ⟨x, y, rfl, hx, hy, rd2, hg2⟩
  obtain ⟨p1, p2⟩ := prod_bd hx hy
  have e0 : IntKind.i64.wrap (x * y) = x * y := IntWalk.i64_in _ (by omega)
  obtain ⟨p, hp⟩ : ∃ p, x * y = p := ⟨_, rfl⟩
  replace e0 := e0.trans hp
  rw [hp] at p1 p2
  clear hp
  go_wp2_with fail
  refine (aSet_c p R _ _ w2 rd2 (by omega) (by omega) (by omega)).mono ?_
  rintro e w3 ⟨l, rfl, hl, rd3, hg3⟩
  have hg3 := hg2.trans hg3
  go_wp2_with fail
  go_ret3
  exact ⟨x, y, l, rfl, hx, hy, hl, below_reader hb hR hg3⟩
theorem draw_pair {w w' : World} {R : Nat} (h : w.grownBy w' (some R)) : w.grownBy w' (some R) := h
set_option maxHeartbeats 4000000 in
set_option maxRecDepth 100000 in
theorem drawCanCome_c (A : Option Addr) (n c : Nat) (w : World) (h : Code w A n c) : Calls Try.prog 13 #[.slice A n c] w (DrawnPresses w) := by
  have HC := hide (newReader_c A n c w h)
  clear h
  go_enter Try.func13, Try.ntmps13
  go_wp2_with fail
  refine HC.out.mono ?_
  rintro e w1 ⟨R, rfl, rd, hb⟩
  have hR : w.heap.size ≤ R := by obtain ⟨_, _, _, _, _, _, _, h, _⟩ := rd; exact h
  go_wp2_with fail
  refine (smallBoard_c 12 R _ 0 w1 rd (by omega) (by omega) (by omega)).mono ?_
  rintro e w2 ⟨x, y, rfl, hx, hy, rd2, hg2⟩
  obtain ⟨p1, p2⟩ := prod_bd hx hy
  have e0 : IntKind.i64.wrap (x * y) = x * y := IntWalk.i64_in _ (by omega)
  obtain ⟨p, hp⟩ : ∃ p, x * y = p := ⟨_, rfl⟩
  replace e0 := e0.trans hp
  rw [hp] at p1 p2
  clear hp
  go_wp2_with fail
  refine (aSet_c p R _ _ w2 rd2 (by omega) (by omega) (by omega)).mono ?_
  rintro e w3 ⟨l, rfl, hl, rd3, hg3⟩
  have hg3 := hg2.trans hg3
  go_wp2_with fail
  refine (aSet_c p R _ _ w3 rd3 (by omega) (by omega) (by omega)).mono ?_
  rintro e w4 ⟨s, rfl, hs, rd4, hg4⟩
  have hg4 := hg3.trans hg4
  have HV := hide (fun w5 => validPegs_c x y l w5)
  by_cases hP : PegS x y l
  · rw [decide_eq_true hP] at HV
    obtain ⟨w', h', z, rfl, rfl, rfl, hw, hh, h12, hz⟩ := pegS_nat hP
    have HCS := hide (fun w6 => comes_c w' h' z w6 hw hh h12 hz)
    have hL : 0 < (comeL w' (w' * h') z).length := List.length_pos_of_mem ((come_mem hw.1 hz).2 .self)
    have hL2 := Nat.le_trans (come_len hw.1 hz) (pow12 h12).2
    have HLT := hide (fun y (hy : y ∈ comeL w' (w' * h') z) => peg_lt h12 (come_lt hw.1 hz hy))
    have PK := hide (fun N w6 (r6 : Reader w6 R w.heap.size N) (hN : N ≤ 1000000) => pick_c 2 R w.heap.size N w6 r6 hN (by omega) (by omega))
    have PL := hide (fun N w6 (r6 : Reader w6 R w.heap.size N) (hN : N ≤ 1000000) => pick_c 200 R w.heap.size N w6 r6 hN (by omega) (by omega))
    clear hP hw hh h12 hz
    generalize comeL w' (w' * h') z = L at *
    go_wp2_with fail
    refine (HV.out _).mono ?_
    rintro e w5 ⟨rfl, rfl⟩
    go_wp2_with fail
    refine (PK.out _ _ rd4 (by omega)).mono ?_
    rintro e w6 ⟨k, rfl, hk1, _, rd6, hg6⟩
    obtain ⟨k0, k1⟩ := hk1 (by omega)
    have hg6 := hg4.trans hg6
    by_cases hk : k = 0
    · subst hk
      clear k0 k1 hk1
      go_wp2_with fail
      refine (HCS.out _).mono ?_
      rintro e w7 ⟨v7, rfl, o7, b7⟩
      obtain ⟨g7, c7, rfl, _, _⟩ := own_addrP o7 hL
      have r7 := own_reads o7
      have rd7 := rd6.then b7
      have hb7 : Below w.heap.size w w7 := below_then (below_reader hb hR hg6) (below_reader hb hR hg6).size b7
      have hg7R : R < w6.heap.size := rd6.lt
      have hne : ∀ ad, (some ⟨g7, 0, none⟩ : Option Addr) = some ad → ad.block ≠ R := fun ad e => by
        injection e with e
        subst e
        have := (o7.lt g7 rfl).1
        simp only
        omega
      clear o7
      go_wp2_with fail
      refine (PL.out _ _ rd7 (by omega)).mono ?_
      rintro e w8 ⟨q, rfl, hq1, _, rd8, hg8⟩
      obtain ⟨q0, q1⟩ := hq1 (by omega)
      have r8 := r7.aside hg8 hne
      have hb8 : Below w.heap.size w w8 := hb7.grown hg8 hb7.size (fun z e => by injection e with e; omega)
      have e1 : IntKind.i64.wrap ((L.length : Int) - 1) = (L.length : Int) - 1 := IntWalk.i64_in _ (by omega)
      clear hq1
      obtain ⟨j, hj, hm1, hm2⟩ : ∃ j : Nat, j < L.length ∧ (if (L.length : Int) - 1 < q then (L.length : Int) - 1 else q) = (j : Int) ∧ min q ((L.length : Int) - 1) = (j : Int) := by
        by_cases hm : (L.length : Int) - 1 < q
        · exact ⟨L.length - 1, by omega, by rw [if_pos hm]; omega, by omega⟩
        · exact ⟨q.toNat, by omega, by rw [if_neg hm]; omega, by omega⟩
      obtain ⟨ad, e, hc⟩ := r8.int (k := j) (by rw [natI_len]; exact hj)
      injection e with e
      subst e
      rw [natI_at, add0P] at hc
      have hlt := HLT.out (L[j]?.getD 0) (by rw [List.getElem?_eq_getElem hj]; exact List.getElem_mem _)
      generalize L[j]?.getD 0 = z' at *
      have j0 : (0 : Int) ≤ (j : Int) := by omega
      have j1 : (j : Int) < (L.length : Int) := by omega
      clear q0 q1 r7 r8 rd8 HLT hj
      go_wp2_with fail
      refine bodyPost_ret (results_tmp4 rfl _ _ _) rfl ?_
      exact ⟨(w' : Int), (h' : Int), (z : Int), (z' : Int), rfl, hx, hy, hl, by omega, hb8⟩
    · have hk' : ¬ (k = 0) := hk
      have hkb : (k == 0) = false := by rw [beq_eq_false_iff_ne]; exact hk
      go_wp2_with fail
      refine bodyPost_ret (results_tmp4 rfl _ _ _) rfl ?_
      exact ⟨(w' : Int), (h' : Int), (z : Int), s, rfl, hx, hy, hl, hs, below_reader hb hR hg6⟩
  · rw [decide_eq_false hP] at HV
    clear hP
    go_wp2_with fail
    refine (HV.out _).mono ?_
    rintro e w5 ⟨rfl, rfl⟩
    go_wp2_with fail
    refine bodyPost_ret (results_tmp4 rfl _ _ _) rfl ?_
    exact ⟨x, y, l, s, rfl, hx, hy, hl, hs, below_reader hb hR hg4⟩
end Go.Proofs.Ytgbbmnnpphkkbac
