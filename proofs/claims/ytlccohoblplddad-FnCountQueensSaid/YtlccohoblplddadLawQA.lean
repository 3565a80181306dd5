
/-
  The walks of the laws FnCountQueens, FnEndsOf.
-/
import Derived.Test.YtlccohoblplddadPEnds
import Derived.Test.YtlccohoblplddadPQueenB
import Derived.Test.YtlccohoblplddadDrawQ
import Derived.Test.YtlccohoblplddadCodeWords
namespace Go.Proofs.Ytlccohoblplddad
open Go.RowKit
set_option linter.unusedVariables false

/-- The ends of the first columns, together. -/
def sumE (n : Int) (l : List Int) : Nat → Int
  | 0 => 0
  | c + 1 => sumE n l c + endsP n (l ++ [(c : Int)])
theorem sum_facts : ∀ n : Fin 7, 1 ≤ n.val → sumE n.val [] n.val = countP n.val ∧ ∀ c : Fin 7, c.val < n.val → (0 ≤ sumE n.val [] c.val ∧ sumE n.val [] c.val ≤ 1000) ∧ (0 ≤ endsP n.val [(c.val : Int)] ∧ endsP n.val [(c.val : Int)] ≤ 1000) := by decide +kernel
theorem count_queens {n : Int} (h : 1 ≤ n ∧ n ≤ 6) : ((queensOfP n).length : Int) = countP n := by
  unfold queensOfP countP
  rw [if_pos h, if_pos h]
set_option maxHeartbeats 2000000 in
theorem countQueens_w (A : Option Addr) (n c : Nat) (w : World) (h : Code w A n c) : Calls Try.prog 4 #[.slice A n c] w (Plain (.bool true) w) := by
  by_cases hl : 1048576 < (n : Int)
  · go_enter Try.func4, Try.ntmps4
    go_wp2
    go_ret
    exact ⟨rfl, Below.refl _ _⟩
  · have HC := hide (drawCountQueens_c A n c w h)
    clear h
    go_enter Try.func4, Try.ntmps4
    go_wp2_with fail
    refine HC.out.mono ?_
    rintro e w1 ⟨k, rfl, ⟨k0, k7⟩, b1⟩
    have HS := hide (fun w5 => specCountQueens_c k w5)
    have HI := hide (fun w5 => implCountQueens_c k w5)
    by_cases hk : 1 ≤ k ∧ k ≤ 6
    · obtain ⟨m, rfl⟩ := Int.eq_ofNat_of_zero_le k0
      have hm1 : 1 ≤ m := by omega
      have hm6 : m ≤ 6 := by omega
      obtain ⟨f1, f2⟩ := sum_facts ⟨m, by omega⟩ hm1
      simp only at f1 f2
      have HE := hide (fun (cc : Nat) (A' : Option Addr) (c' : Nat) (w5 : World) (h5 : Row w5 A' (ints [(cc : Int)])) => show Calls Try.prog 18 #[.int .i64 (m : Int), .slice A' 1 c'] w5 (Plain (.int .i64 (endsP (m : Int) [(cc : Int)])) w5) from implEndsOf_c (m : Int) A' c' [(cc : Int)] w5 h5 (by simp))
      have HF := hide (fun (cc : Nat) (hc : cc < m) => show (0 ≤ sumE (m : Int) [] cc ∧ sumE (m : Int) [] cc ≤ 1000) ∧ (0 ≤ endsP (m : Int) [(cc : Int)] ∧ endsP (m : Int) [(cc : Int)] ≤ 1000) from f2 ⟨cc, by omega⟩ hc)
      have HQ := hide (fun w5 => implQueensOf_c (m : Int) w5)
      have hcq := count_queens (n := (m : Int)) (by omega)
      have hv0 : 0 ≤ countP (m : Int) := by rw [← hcq]; omega
      have HCQ := hide hcq
      have F1 := hide f1
      have HS0 : Hid (sumE (m : Int) [] 0 = 0) := rfl
      have HS1 := hide (fun cc => show sumE (m : Int) [] (cc + 1) = sumE (m : Int) [] cc + endsP (m : Int) [(cc : Int)] from rfl)
      clear hk f1 f2 hcq k0 k7
      generalize countP (m : Int) = v at *
      have hvv : (v != v) = false := by simp
      go_wp2_with fail
      refine (HI.out _).mono ?_
      rintro e w2 ⟨rfl, rfl⟩
      go_wp2_with fail
      refine (HS.out _).mono ?_
      rintro e w2 ⟨rfl, rfl⟩
      go_wp2_with fail
      go_loopw [5, 6] (fun s i wr => ∃ cc : Nat, cc ≤ m ∧ i = .int .i64 (cc : Int) ∧ s = .int .i64 (sumE (m : Int) [] cc) ∧ Below w.heap.size w wr) (fun _ i _ => m - (intOf i).toNat)
      case atStart => exact ⟨0, Nat.zero_le _, rfl, rfl, b1⟩
      case round =>
        obtain ⟨cc, hcc, rfl, rfl, hb⟩ := hrel
        obtain ⟨wo, rfl⟩ : ∃ wo : World, wo = wr := ⟨_, rfl⟩
        by_cases hlt : cc < m
        · have hba : Below w.heap.size w (wo.alloc (.cells #[.int .i64 (cc : Int)] 3)) := hb.alloc hb.size _
          have HEc := hide (HE.out cc (some ⟨wo.heap.size, 0, none⟩) 1 (wo.alloc (.cells #[.int .i64 (cc : Int)] 3)) (row_new wo #[.int .i64 (cc : Int)] 3 rfl))
          obtain ⟨⟨s0, s1⟩, e0, e1⟩ := HF.out cc hlt
          have HS2 := hide (HS1.out cc)
          generalize sumE (m : Int) [] cc = s at *
          generalize endsP (m : Int) [(cc : Int)] = en at *
          go_wp2_with fail
          refine HEc.out.mono ?_
          rintro e w3 ⟨rfl, b3⟩
          have B3 := hide (below_then hba hba.size b3)
          clear b3
          go_wp2_with fail
          exact ⟨⟨cc + 1, hlt, rfl, by rw [HS2.out], B3.out⟩, by simp [intOf]; omega⟩
        · obtain rfl : cc = m := by omega
          have hse : (sumE (cc : Int) [] cc == v) = true := by rw [beq_iff_eq]; exact F1.out
          generalize sumE (cc : Int) [] cc = s at *
          go_wp2_with fail
          refine (HQ.out _).mono ?_
          rintro e w3 ⟨v3, vs, rfl, own3, rs3, _, b3⟩
          have hvl : vs.length = (queensOfP (cc : Int)).length := rs3.1
          obtain ⟨A3, c3, rfl, _⟩ := own_row own3
          have B3 := hide (below_then hb hb.size b3)
          have hle : ((vs.length : Int) == v) = true := by rw [beq_iff_eq, hvl]; exact HCQ.out
          clear own3 rs3 b3 hvl
          go_wp2_with fail
          go_ret
          exact ⟨rfl, B3.out⟩
    · have HV : Hid (countP k = -1) := by show _ = _; unfold countP; rw [if_neg hk]
      rw [HV.out] at HS HI
      clear hk
      go_wp2_with fail
      refine (HI.out _).mono ?_
      rintro e w2 ⟨rfl, rfl⟩
      go_wp2_with fail
      refine (HS.out _).mono ?_
      rintro e w2 ⟨rfl, rfl⟩
      go_wp2_with fail
      refine (HS.out _).mono ?_
      rintro e w2 ⟨rfl, rfl⟩
      go_wp2_with fail
      go_ret
      exact ⟨rfl, b1⟩
end Go.Proofs.Ytlccohoblplddad
