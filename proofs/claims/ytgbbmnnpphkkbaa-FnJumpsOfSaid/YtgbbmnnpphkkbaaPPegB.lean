
/-
  The program's pegs: both, isOf, behind.
-/
import Derived.Test.YtgbbmnnpphkkbaaPPegA
namespace Go.Proofs.Ytgbbmnnpphkkbaa
open Go.RowKit
set_option linter.unusedVariables false

abbrev jumpA (i o l : Int) : Value := .agg #[.int .i64 i, .int .i64 o, .int .i64 l]
theorem or_lt12 {a b : Nat} (ha : a < 4096) (hb : b < 4096) : a ||| b < 4096 := Nat.or_lt_two_pow (n := 12) ha hb
set_option maxHeartbeats 400000 in
theorem both_c (i o l : Nat) (hi : i < 12) (ho : o < 12) (W : World) : Calls Try.prog 54 #[jumpA i o l] W (Plain (.int .i64 ((2 ^ i ||| 2 ^ o : Nat) : Int)) W) := by
  have e1 := shl64 i (by omega)
  have e2 := shl64 o (by omega)
  have p1 := (pow64 (k := i) (by omega)).2
  have p2 := (pow64 (k := o) (by omega)).2
  have e3 := or64 (2 ^ i) (2 ^ o) p1 p2
  have i0 : (0 : Int) ≤ (i : Int) := by omega
  have o0 : (0 : Int) ≤ (o : Int) := by omega
  have i64 : (i : Int) < 64 := by omega
  have o64 : (o : Int) < 64 := by omega
  generalize 2 ^ i ||| 2 ^ o = B at *
  generalize (2 ^ i : Nat) = P at *
  generalize (2 ^ o : Nat) = Q at *
  go_enter Try.func54, Try.ntmps54
  go_wp2_with fail
  go_quiet (fail)
  go_wp2_with fail
  go_ret
  exact ⟨rfl, below_drewN ((Below.refl _ _).alloc (Nat.le_refl _) _) _⟩
set_option maxHeartbeats 1000000 in
set_option maxRecDepth 100000 in
theorem isOf_c (i o l s : Nat) (hi : i < 12) (ho : o < 12) (hl : l < 12) (hs : s < 4096) (W : World) : Calls Try.prog 48 #[jumpA i o l, .int .i64 (s : Int)] W (Plain (.bool (isP s (i, o, l))) W) := by
  have HB := hide (fun w5 => both_c i o l hi ho w5)
  have e1 := shl64 l (by omega)
  have pw : ∀ k, k < 12 → 2 ^ k < 4096 := fun k hk => Nat.pow_lt_pow_right (a := 2) (n := 12) (by omega) hk
  have b1 := or_lt12 (pw i hi) (pw o ho)
  have b2 := or_lt12 b1 (pw l hl)
  have b3 := pw l hl
  have b4 : s &&& (2 ^ i ||| 2 ^ o ||| 2 ^ l) < 4096 := Nat.lt_of_le_of_lt Nat.and_le_left hs
  have hv : isP s (i, o, l) = ((s &&& (2 ^ i ||| 2 ^ o ||| 2 ^ l)) == (2 ^ i ||| 2 ^ o)) := rfl
  rw [hv]
  have l0 : (0 : Int) ≤ (l : Int) := by omega
  have l64 : (l : Int) < 64 := by omega
  clear pw hv
  generalize (2 ^ i ||| 2 ^ o : Nat) = B at *
  have e2 := or64 B (2 ^ l) (by omega) (by omega)
  generalize (2 ^ l : Nat) = L at *
  have e3 := and64 s (B ||| L) (by omega) (by omega)
  generalize (B ||| L : Nat) = M at *
  generalize (s &&& M : Nat) = X at *
  have hq := hide (show ((X : Int) == (B : Int)) = (X == B) by rw [Bool.eq_iff_iff, beq_iff_eq, beq_iff_eq]; omega)
  clear hi ho hl
  go_enter Try.func48, Try.ntmps48
  go_wp2_with fail
  have bx0 := Box.new W 46 #[.int .i64 (i : Int), .int .i64 (o : Int), .int .i64 (l : Int)]
  have hbd : Below W.heap.size W (W.alloc (.cells #[.int .i64 (i : Int), .int .i64 (o : Int), .int .i64 (l : Int)] 46)).drew := ((Below.refl _ _).alloc (Nat.le_refl _) _).drew
  have bxd : Box (W.alloc (.cells #[.int .i64 (i : Int), .int .i64 (o : Int), .int .i64 (l : Int)] 46)).drew W.heap.size 46 #[.int .i64 (i : Int), .int .i64 (o : Int), .int .i64 (l : Int)] := bx0
  have k0 := bxd.cell 0
  have k1 := bxd.cell 1
  have k2 := bxd.cell 2
  go_region_held3 (fun w' => w'.cell? ⟨W.heap.size, 0, none⟩ = some (.int .i64 (i : Int)) ∧ w'.cell? ⟨W.heap.size, 1, none⟩ = some (.int .i64 (o : Int)) ∧ w'.cell? ⟨W.heap.size, 2, none⟩ = some (.int .i64 (l : Int))) (go_keep)
    (first
      | (go_at_call 54; refine (HB.out _).mono ?_
         rintro e w1 ⟨rfl, b5⟩
         have bx1 := bxd.then b5
         have k10 := bx1.cell 0
         have k11 := bx1.cell 1
         have k12 := bx1.cell 2
         have hb1 := below_then hbd hbd.size b5
         clear b5)
      | (go_at_call 54; refine (HB.out _).mono ?_
         rintro e w2 ⟨rfl, b6⟩
         have bx2 := bx1.then b6
         have k20 := bx2.cell 0
         have k21 := bx2.cell 1
         have k22 := bx2.cell 2
         have hb2 := below_then hb1 hb1.size b6
         clear b6)
      | fail)
  go_wp2_with fail
  go_ret
  exact ⟨show Ending.returned (.bool ((X : Int) == (B : Int))) = _ by rw [hq.out], hb2⟩
end Go.Proofs.Ytgbbmnnpphkkbaa
