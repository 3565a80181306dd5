
/-
  Walks: the program's walkOf and chanceOf.
-/
import Derived.Test.YtoapmmmmdfmaeacPGuardM
import Derived.Test.YtoapmmmmdfmaeacChanceP
import Derived.Test.YtoapmmmmdfmaeacPartM
namespace Go.Proofs.Ytoapmmmmdfmaeac
open Go.RowKit
set_option linter.unusedVariables false

/-- The first k of some cells are cells of a board of n. -/
def cellsTo (cs : List Int) (n k : Nat) : Bool := (cs.take k).all fun x => decide (0 ≤ x) && decide (x < (n : Int))
theorem cells_succ (cs : List Int) (n : Nat) {k : Nat} (h : k < cs.length) : cellsTo cs n (k + 1) = (cellsTo cs n k && (decide (0 ≤ cs[k]?.getD 0) && decide (cs[k]?.getD 0 < (n : Int)))) := by
  unfold cellsTo
  rw [take_snoc _ _ h, List.all_append]
  simp
/-- The sets of a small board, and a truth value. -/
def WalkIs (L : List Nat) (b : Bool) (w : World) (e : Ending) (w' : World) : Prop := ∃ A c, e = .returned (.tuple #[.slice A L.length c, .bool b]) ∧ w'.ownsRow w.heap.size 3 1 (.slice A L.length c) L.length (ints (natI L)) ∧ Below w.heap.size w w'
set_option maxHeartbeats 1000000 in
set_option maxRecDepth 100000 in
theorem walkOf_no (bc br : Int) (s : ByteArray) (A : Option Addr) (c : Nat) (cs : List Int) (w : World) (h : smallK bc br s.toList = none) (hr : Row w A (ints cs)) (hm : cs.length ≤ 2) :
    Calls Try.prog 33 #[.int .i64 bc, .int .i64 br, .string s, .slice A cs.length c] w (Plain (.tuple #[.slice none 0 0, .bool false]) w) := by
  have HS := hide (fun w5 => smallOf_no bc br s w5 h)
  have HR := hide hr
  clear h hr
  go_enter Try.func33, Try.ntmps33
  go_wp2_with fail
  refine (HS.out _).mono ?_
  rintro e w1 ⟨rfl, b1⟩
  go_wp2_with fail
  go_loopw [11, 23] (fun o i wr => ∃ k : Nat, k ≤ cs.length ∧ i = .int .i64 (k : Int) ∧ o = .bool false ∧ w1 = wr) (fun _ i _ => cs.length - (intOf i).toNat)
  case atStart => exact ⟨0, Nat.zero_le _, rfl, rfl, rfl⟩
  case round =>
    obtain ⟨k, hk, rfl, rfl, rfl⟩ := hrel
    by_cases hlt : k < cs.length
    · obtain ⟨ad, rfl, hck⟩ := (HR.out.below b1).int (k := k) hlt
      generalize cs[k]?.getD 0 = x at *
      have k0 : (0 : Int) ≤ (k : Int) := by omega
      have k1 : (k : Int) < (cs.length : Int) := by omega
      go_wp2_with fail
      exact ⟨⟨k + 1, hlt, by go_num, rfl, trivial⟩, by simp [intOf]; omega⟩
    · obtain rfl : k = cs.length := by omega
      go_wp2_with fail
      go_ret2
      exact ⟨rfl, b1⟩
set_option maxHeartbeats 1000000 in
set_option maxRecDepth 100000 in
theorem walkOf_yes (bc br : Int) (s : ByteArray) (A : Option Addr) (c n : Nat) (cs : List Int) (w : World) {ss : List (Int × Int)} {far : Bool} (hk : kindL s.toList = some (ss, far)) (hS : Small bc br) (hn : (setsP bc br far ss).length = n) (hr : Row w A (ints cs)) (hm : cs.length ≤ 2) :
    Calls Try.prog 33 #[.int .i64 bc, .int .i64 br, .string s, .slice A cs.length c] w (WalkIs (setsP bc br far ss) (cellsTo cs n cs.length) w) := by
  have HS := hide (fun w5 => smallOf_yes bc br s w5 hk hS)
  have HR := hide hr
  have HC := hide (fun k (hk : k < cs.length) => cells_succ cs n hk)
  clear hk hS hr
  generalize setsP bc br far ss = L at *
  go_enter Try.func33, Try.ntmps33
  go_wp2_with fail
  refine (HS.out _).mono ?_
  rintro e w1 ⟨A1, c1, rfl, o1, b1⟩
  rw [hn] at o1 ⊢
  have O1 := hide o1
  clear o1
  go_wp2_with fail
  go_loopw [11, 23] (fun o i wr => ∃ k : Nat, k ≤ cs.length ∧ i = .int .i64 (k : Int) ∧ o = .bool (cellsTo cs n k) ∧ w1 = wr) (fun _ i _ => cs.length - (intOf i).toNat)
  case atStart => exact ⟨0, Nat.zero_le _, rfl, rfl, rfl⟩
  case round =>
    obtain ⟨k, hk, rfl, rfl, rfl⟩ := hrel
    by_cases hlt : k < cs.length
    · obtain ⟨ad, rfl, hck⟩ := (HR.out.below b1).int (k := k) hlt
      have HCk := hide (HC.out k hlt)
      generalize cs[k]?.getD 0 = x at *
      have k0 : (0 : Int) ≤ (k : Int) := by omega
      have k1 : (k : Int) < (cs.length : Int) := by omega
      generalize cellsTo cs n k = b at *
      cases b with
      | false =>
        have HV := hide (HCk.out.trans (Bool.false_and _))
        clear HCk
        go_wp2_with fail
        exact ⟨⟨k + 1, hlt, by go_num, by rw [HV.out], trivial⟩, by simp [intOf]; omega⟩
      | true =>
        by_cases h0 : 0 ≤ x
        · have h0' : decide (0 ≤ x) = true := decide_eq_true h0
          obtain ⟨d, hd⟩ : ∃ d, decide (x < (n : Int)) = d := ⟨_, rfl⟩
          have HV := hide (show cellsTo cs n (k + 1) = d by rw [HCk.out, h0', hd]; rfl)
          clear HCk
          go_wp2_with fail
          exact ⟨⟨k + 1, hlt, by go_num, by rw [HV.out], trivial⟩, by simp [intOf]; omega⟩
        · have h0' : decide (0 ≤ x) = false := decide_eq_false h0
          have HV := hide (show cellsTo cs n (k + 1) = false by rw [HCk.out, h0']; rfl)
          clear HCk
          go_wp2_with fail
          exact ⟨⟨k + 1, hlt, by go_num, by rw [HV.out], trivial⟩, by simp [intOf]; omega⟩
    · obtain rfl : k = cs.length := by omega
      go_wp2_with fail
      go_ret2
      exact ⟨A1, c1, by rw [hn]; rfl, by rw [hn]; exact O1.out, b1⟩
end Go.Proofs.Ytoapmmmmdfmaeac
