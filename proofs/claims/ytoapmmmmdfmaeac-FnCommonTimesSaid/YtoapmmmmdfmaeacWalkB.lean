
/-
  Walks by chance: the model's validWalk, whole, degreeSum, ShareOf.
-/
import Derived.Test.YtoapmmmmdfmaeacWalkA
import Derived.Test.YtoapmmmmdfmaeacWalkU
import Derived.Test.YtoapmmmmdfmaeacMoveN
import Derived.Test.YtoapmmmmdfmaeacGuardM
namespace Go.Proofs.Ytoapmmmmdfmaeac
open Go.RowKit
set_option linter.unusedVariables false

theorem pc_small : ∀ s : Fin 512, pcN 512 s.val = pcN 9 s.val := by decide +kernel
theorem pc_le9 : ∀ s : Fin 512, pcN 9 s.val ≤ 9 := by decide +kernel
theorem bits9_c (s : Nat) (hs : s < 512) (w : World) : Calls Try.prog 46 #[.int .i64 (s : Int)] w fun e w' => e = .returned (.int .i64 ((pcN 9 s : Nat) : Int)) ∧ w = w' := by
  have := specBits_c s (by omega) w
  rwa [pc_small ⟨s, hs⟩] at this
theorem bits9_le {s : Nat} (hs : s < 512) : pcN 9 s ≤ 9 := pc_le9 ⟨s, hs⟩
/-- What is known of a small board and a kind. -/
structure WalkOf (bc br : Int) (ss : List (Int × Int)) (far : Bool) (L : List Nat) (a b n : Nat) : Prop where
  eqc : bc = (a : Int)
  eqr : br = (b : Int)
  sz : a * b = n
  len : L.length = n
  one : 1 ≤ n
  nine : n ≤ 9
  size : bc * br = (n : Int)
  sets : Sets9 L
  tab : (chTab.any fun e => e.1 == L) = true
  board : boardOk a b (ss, far) = true
  begins : beginOk a b (ss, far) = true
  is : L = setsP (a : Int) (b : Int) far ss
theorem walk_of {bc br : Int} {s : List UInt8} {ss : List (Int × Int)} {far : Bool} (hS : Small bc br) (hk : kindL s = some (ss, far)) : ∃ a b n, WalkOf bc br ss far (setsP bc br far ss) a b n := by
  obtain ⟨h9s, hlen⟩ := sets9_of hS hk
  obtain ⟨h1, h2, h3, h4, h9⟩ := hS
  have h0 : 1 ≤ bc * br := (mul_bd h1 h2 h3 h4).1
  obtain ⟨a, rfl⟩ : ∃ a : Nat, bc = ((a + 1 : Nat) : Int) := ⟨(bc - 1).toNat, by omega⟩
  obtain ⟨b, rfl⟩ : ∃ b : Nat, br = ((b + 1 : Nat) : Int) := ⟨(br - 1).toNat, by omega⟩
  have h9' : (a + 1) * (b + 1) ≤ 9 := by
    have : (((a + 1) * (b + 1) : Nat) : Int) ≤ 9 := by rw [Int.natCast_mul]; exact h9
    omega
  have hz : ((a + 1 : Nat) : Int) * ((b + 1 : Nat) : Int) = (((a + 1) * (b + 1) : Nat) : Int) := (Int.natCast_mul _ _).symm
  have hp : 1 ≤ (a + 1) * (b + 1) := Nat.mul_pos (by omega) (by omega)
  exact ⟨a + 1, b + 1, _, rfl, rfl, rfl, by omega, hp, h9', hz, h9s, List.all_eq_true.1 (in_tab ⟨a, by omega⟩ ⟨b, by omega⟩ h9') (ss, far) (kind_six6 hk),
    List.all_eq_true.1 (board_all ⟨a, by omega⟩ ⟨b, by omega⟩ h9') (ss, far) (kind_six6 hk), List.all_eq_true.1 (begin_all ⟨a, by omega⟩ ⟨b, by omega⟩ h9') (ss, far) (kind_six6 hk), rfl⟩
theorem moves_T {bc br : Int} (h1 : 1 ≤ bc) (h2 : bc ≤ 5) (h3 : 1 ≤ br) (h4 : br ≤ 5) (far : Bool) (ss : List (Int × Int)) {N : Nat} (hN : bc * br = (N : Int)) (c : Nat) (hc : c < N) : movesP bc br far ss (c : Int) = movesT (tabP bc br far ss) N c := by
  have hin : ∀ x, ∀ y ∈ reachP bc br far [] x ss, 0 ≤ y ∧ y < (N : Int) := fun x y hy => by
    unfold reachP at hy
    rw [List.mem_mergeSort] at hy
    have := cells_in h1 h2 h3 h4 y hy
    rwa [hN] at this
  have hm := Met.start (N := N) (cell := (c : Int)) (by omega) (by omega)
  unfold movesP
  rw [hN]
  exact (bfsT_eq far ss hN hin 26 _ 0 hm).symm
set_option maxHeartbeats 1000000 in
theorem validWalk_c (bc br : Int) (s : ByteArray) (i k : Int) (W : World) : Calls Try.prog 20 #[.int .i64 bc, .int .i64 br, .string s, .int .i64 i, .int .i64 k] W (Plain (.bool ((smallK bc br s.toList).isSome && decide (0 ≤ i ∧ i < bc * br) && decide (0 ≤ k ∧ k < bc * br))) W) := by
  have HVS := hide (validSmall_c bc br s W)
  cases hk : smallK bc br s.toList with
  | none =>
    rw [hk] at HVS
    clear hk
    go_enter Try.func20, Try.ntmps20
    go_wp2_with fail
    refine HVS.out.mono ?_
    rintro e w1 ⟨rfl, b1⟩
    go_wp2_with fail
    go_ret
    exact ⟨rfl, b1⟩
  | some p =>
    obtain ⟨ss, far⟩ := p
    rw [hk] at HVS
    obtain ⟨hS, hkk⟩ := smallK_some hk
    obtain ⟨a, b, n, hW⟩ := walk_of hS hkk
    have hsz := hW.size
    have hn1 := hW.one
    have hn9 := hW.nine
    have e0 : IntKind.i64.wrap (bc * br) = (n : Int) := (IntWalk.i64_in _ (by omega)).trans hsz
    have e1 : IntKind.i64.wrap ((n : Int) - 1) = (n : Int) - 1 := IntWalk.i64_in _ (by omega)
    rw [hsz, Option.isSome_some, Bool.true_and]
    have HRi := hide (fun w5 => inRange_c i 0 ((n : Int) - 1) w5)
    have HRk := hide (fun w5 => inRange_c k 0 ((n : Int) - 1) w5)
    clear hk hS hkk hW hsz
    rw [show decide (0 ≤ i ∧ i ≤ (n : Int) - 1) = decide (0 ≤ i ∧ i < (n : Int)) from decide_eq_decide.2 (by omega)] at HRi
    rw [show decide (0 ≤ k ∧ k ≤ (n : Int) - 1) = decide (0 ≤ k ∧ k < (n : Int)) from decide_eq_decide.2 (by omega)] at HRk
    generalize decide (0 ≤ i ∧ i < (n : Int)) = x at *
    generalize decide (0 ≤ k ∧ k < (n : Int)) = y at *
    cases x with
    | false =>
      clear HRk
      go_enter Try.func20, Try.ntmps20
      go_wp2_with fail
      refine HVS.out.mono ?_
      rintro e w1 ⟨rfl, b1⟩
      go_wp2_with fail
      refine (HRi.out _).mono ?_
      rintro e w2 ⟨rfl, rfl⟩
      go_wp2_with fail
      go_ret
      exact ⟨rfl, b1⟩
    | true =>
      go_enter Try.func20, Try.ntmps20
      go_wp2_with fail
      refine HVS.out.mono ?_
      rintro e w1 ⟨rfl, b1⟩
      go_wp2_with fail
      refine (HRi.out _).mono ?_
      rintro e w2 ⟨rfl, rfl⟩
      go_wp2_with fail
      refine (HRk.out _).mono ?_
      rintro e w3 ⟨rfl, rfl⟩
      go_wp2_with fail
      go_ret
      exact ⟨by simp, b1⟩
/-- Whether a piece comes everywhere. -/
def wholeB (a b : Nat) (ss : List (Int × Int)) (far : Bool) : Bool := !((movesT (tabP (a : Int) (b : Int) far ss) (a * b) 0).contains (-1))
set_option maxHeartbeats 1000000 in
theorem whole_c (bc br : Int) (s : ByteArray) (ss : List (Int × Int)) (far : Bool) (L : List Nat) (a b n : Nat) (W : World) (hk : kindL s.toList = some (ss, far)) (hS : Small bc br) (hW : WalkOf bc br ss far L a b n) :
    Calls Try.prog 21 #[.int .i64 bc, .int .i64 br, .string s] W (Plain (.bool (wholeB a b ss far)) W) := by
  obtain ⟨h1, h2, h3, h4, h9⟩ := hS
  have hpos := hW.one
  have hsz := hW.size
  have HA := hide (fun w5 => away_c bc br 0 s far ss w5 hk h1 h2 h3 h4 (by omega) (by omega))
  have hT := moves_T h1 h2 h3 h4 far ss hsz 0 hpos
  have hV : decide ((-1 : Int) ∈ movesP bc br far ss 0) = !(wholeB a b ss far) := by
    unfold wholeB
    rw [Bool.not_not, ← hW.eqc, ← hW.eqr, hW.sz, ← hT, List.contains_eq_mem]
    rfl
  have HI := hide (fun (A : Option Addr) (c : Nat) (w5 : World) (hr : Row w5 A (ints (movesP bc br far ss 0))) (hm : (movesP bc br far ss 0).length ≤ maxLen) => by
    have := hasInt_c A (movesP bc br far ss 0) c (-1) w5 hr hm
    rwa [hV] at this)
  clear hk hW hsz hT hV
  generalize movesP bc br far ss 0 = M at *
  generalize wholeB a b ss far = x at *
  go_enter Try.func21, Try.ntmps21
  go_wp2_with fail
  refine (HA.out _).mono ?_
  rintro e w1 ⟨v1, rfl, o1, b1⟩
  obtain ⟨A1, c1, rfl, hc1, hc2, _⟩ := own_row o1
  have R1 := hide (own_reads o1)
  have HML := hide (Nat.le_trans hc1 hc2)
  clear o1 hc1 hc2
  go_wp2_with fail
  refine (HI.out _ _ _ R1.out HML.out).mono ?_
  rintro e w2 ⟨rfl, b2⟩
  go_wp2_with fail
  go_ret
  exact ⟨by simp, below_then b1 b1.size b2⟩
theorem deg_le {L : List Nat} (h : Sets9 L) : ∀ k, degTo L k ≤ 9 * k
  | 0 => Nat.le_refl _
  | k + 1 => by
    have := deg_le h k
    have := bits9_le (h.bd k)
    show degTo L k + pcN 9 (L[k]?.getD 0) ≤ 9 * (k + 1)
    omega
/-- A fraction, or none. -/
def optF : Option (Nat × Nat) → Value
  | some p => .tuple #[fracV p, .bool true]
  | none => .tuple #[fracV (0, 0), .bool false]
def shareV (bc br : Int) (s : List UInt8) (cell : Int) : Option (Nat × Nat) := match smallK bc br s with
  | some (ss, far) => if 0 ≤ cell ∧ cell < bc * br then (hitOf (setsP bc br far ss)).map fun _ => shareP (setsP bc br far ss) cell.toNat else none
  | none => none
/-- Why there is no answer. -/
theorem board_none {a b : Nat} {ss : List (Int × Int)} {far : Bool} (h : boardOk a b (ss, far) = true) (hn : hitOf (setsP (a : Int) (b : Int) far ss) = none) : a * b = 1 ∨ wholeB a b ss far = false := by
  unfold boardOk at h
  simp only at h
  rw [hn] at h
  simp only [Bool.or_eq_true, beq_iff_eq] at h
  rcases h with h | h
  · exact .inl h
  · exact .inr (by unfold wholeB; simpa using h)
theorem board_some {a b : Nat} {ss : List (Int × Int)} {far : Bool} {M : List (List (Nat × Nat))} (h : boardOk a b (ss, far) = true) (hn : hitOf (setsP (a : Int) (b : Int) far ss) = some M) : wholeB a b ss far = true ∧ 2 ≤ a * b := by
  unfold boardOk at h
  simp only at h
  rw [hn] at h
  simp only [Bool.and_eq_true, decide_eq_true_eq] at h
  exact ⟨h.1.1, h.1.2⟩
theorem chance_of {L : List Nat} {M : List (List (Nat × Nat))} (h : hitOf L = some M) : chanceOk (L, M) = true := List.all_eq_true.1 chance_all _ (hitOf_mem h)
end Go.Proofs.Ytoapmmmmdfmaeac
