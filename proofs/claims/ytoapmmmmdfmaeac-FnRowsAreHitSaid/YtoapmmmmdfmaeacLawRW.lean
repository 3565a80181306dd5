
/-
  The laws' own words of chapter 10: divisor, fracOf, plusOf, turnedCell, eqFrac.
-/
import Derived.Test.YtoapmmmmdfmaeacWalkA
namespace Go.Proofs.Ytoapmmmmdfmaeac
open Go.RowKit
set_option linter.unusedVariables false

set_option maxHeartbeats 1000000 in
theorem divisor_c (a b : Nat) (w : World) (ha : a ≤ 2000000000000000000) (hb : b ≤ 2000000000000000000) : Calls Try.prog 24 #[.int .i64 (a : Int), .int .i64 (b : Int)] w fun e w' => e = .returned (.int .i64 ((Nat.gcd a b : Nat) : Int)) ∧ w = w' := by
  go_enter Try.func24, Try.ntmps24
  go_wp2_with fail
  go_loopw [0, 1] (fun av bv wr => ∃ x y : Nat, av = .int .i64 (x : Int) ∧ bv = .int .i64 (y : Int) ∧ x ≤ 2000000000000000000 ∧ y ≤ 2000000000000000000 ∧ Hid (Nat.gcd x y = Nat.gcd a b) ∧ w = wr) (fun _ bv _ => (intOf bv).toNat)
  case atStart => exact ⟨a, b, rfl, rfl, ha, hb, rfl, rfl⟩
  case round =>
    obtain ⟨x, y, rfl, rfl, hx, hy, hg, rfl⟩ := hrel
    by_cases hz : y = 0
    · subst hz
      have hmx : max (x : Int) (-(x : Int)) = (x : Int) := by omega
      have e0 : IntKind.i64.wrap (-(x : Int)) = -(x : Int) := IntWalk.i64_in _ (by omega)
      have HV := hide (show x = Nat.gcd a b by rw [← hg.out, Nat.gcd_zero_right])
      clear hg
      go_wp2_with fail
      go_ret
      exact ⟨ret_int (by rw [← HV.out]), rfl⟩
    · have hz' : ((y : Int) != 0) = true := by rw [bne_iff_ne]; omega
      have hz2 : ((y : Int) == 0) = false := by rw [beq_eq_false_iff_ne]; omega
      have hlt : x % y < y := Nat.mod_lt x (by omega)
      have HG := hide (show Nat.gcd y (x % y) = Nat.gcd a b by rw [← hg.out, Nat.gcd_comm x y, Nat.gcd_rec y x, Nat.gcd_comm]
      )
      have t1 : Int.tmod (x : Int) (y : Int) = ((x % y : Nat) : Int) := rfl
      have t2 : (x : Int) % (y : Int) = ((x % y : Nat) : Int) := rfl
      obtain ⟨z, hzz⟩ : ∃ z, x % y = z := ⟨_, rfl⟩
      rw [hzz] at hlt HG t1 t2
      have e1 : IntKind.i64.wrap (z : Int) = (z : Int) := IntWalk.i64_in _ (by omega)
      clear hg hzz
      go_wp2_with fail
      exact ⟨⟨y, z, rfl, rfl, hy, by omega, HG.out, trivial⟩, by simp [intOf]; omega⟩
set_option maxHeartbeats 1000000 in
theorem fracOf_c (u d : Nat) (w : World) (hu : u ≤ 2000000000000000000) (hd : 1 ≤ d ∧ d ≤ 2000000000000000000) : Calls Try.prog 9 #[.int .i64 (u : Int), .int .i64 (d : Int)] w (Plain (fracV (fracP u d)) w) := by
  have HG := hide (fun w5 => divisor_c u d w5 hu hd.2)
  have hg := gcd_pos (u := u) hd.1
  have q1 : Int.tdiv (u : Int) ((Nat.gcd u d : Nat) : Int) = ((u / Nat.gcd u d : Nat) : Int) := rfl
  have q2 : Int.tdiv (d : Int) ((Nat.gcd u d : Nat) : Int) = ((d / Nat.gcd u d : Nat) : Int) := rfl
  have l1 := Nat.div_le_self u (Nat.gcd u d)
  have l2 := Nat.div_le_self d (Nat.gcd u d)
  have HV : Hid (fracP u d = (u / Nat.gcd u d, d / Nat.gcd u d)) := rfl
  generalize u / Nat.gcd u d = x at *
  generalize d / Nat.gcd u d = y at *
  generalize Nat.gcd u d = g at *
  have hg0 : g ≠ 0 := by omega
  have hdn : ¬ ((d : Int) < 0) := by omega
  have e1 : IntKind.i64.wrap (x : Int) = (x : Int) := IntWalk.i64_in _ (by omega)
  have e2 : IntKind.i64.wrap (y : Int) = (y : Int) := IntWalk.i64_in _ (by omega)
  go_enter Try.func9, Try.ntmps9
  go_wp2_with fail
  refine (HG.out _).mono ?_
  rintro e w1 ⟨rfl, rfl⟩
  go_wp2_with fail
  go_region
  all_goals go_wp2_with fail
  refine bodyPost_ret (res_frac rfl _ _ w.heap.size (.int .i64 (x : Int)) (.int .i64 (y : Int)) rfl (Box.new w 26 #[.int .i64 (x : Int), .int .i64 (y : Int)])) rfl ?_
  exact ⟨by rw [HV.out], ((Below.refl _ _).alloc (Nat.le_refl _) _).drew⟩
set_option maxHeartbeats 1000000 in
theorem plusOf_c (a b : Nat × Nat) (w : World) (ha : okF a = true) (hb : okF b = true) : Calls Try.prog 11 #[fracV a, fracV b] w (Plain (fracV (plusP a b)) w) := by
  obtain ⟨⟨a1, a2⟩, a3⟩ := okF_is ha
  obtain ⟨⟨b1, b2⟩, b3⟩ := okF_is hb
  obtain ⟨p, q⟩ := a
  obtain ⟨r, s⟩ := b
  simp only at a1 a2 a3 b1 b2 b3
  have m1 := mul_ok a3 b2
  have m2 := mul_ok b3 a2
  have m3 := mul_ok a2 b2
  have m4 : 1 ≤ q * s := Nat.mul_pos a1 b1
  have HF := hide (fun w5 => fracOf_c (p * s + r * q) (q * s) w5 (by omega) ⟨m4, by omega⟩)
  have HV : Hid (plusP (p, q) (r, s) = fracP (p * s + r * q) (q * s)) := rfl
  have e1 : IntKind.i64.wrap ((p : Int) * (s : Int)) = ((p * s : Nat) : Int) := (IntWalk.i64_in _ (by rw [← Int.natCast_mul]; omega)).trans (Int.natCast_mul _ _).symm
  have e2 : IntKind.i64.wrap ((r : Int) * (q : Int)) = ((r * q : Nat) : Int) := (IntWalk.i64_in _ (by rw [← Int.natCast_mul]; omega)).trans (Int.natCast_mul _ _).symm
  have e3 : IntKind.i64.wrap ((q : Int) * (s : Int)) = ((q * s : Nat) : Int) := (IntWalk.i64_in _ (by rw [← Int.natCast_mul]; omega)).trans (Int.natCast_mul _ _).symm
  generalize p * s = x at *
  generalize r * q = y at *
  generalize q * s = z at *
  have e4 : IntKind.i64.wrap ((x : Int) + (y : Int)) = ((x + y : Nat) : Int) := (IntWalk.i64_in _ (by omega)).trans (by omega)
  obtain ⟨t, ht⟩ : ∃ t, x + y = t := ⟨_, rfl⟩
  rw [ht] at HF HV e4
  rw [HV.out]
  generalize fracP t z = f at *
  clear ht HV ha hb
  go_enter Try.func11, Try.ntmps11
  go_wp2_with fail
  refine (HF.out _).mono ?_
  rintro e w1 ⟨rfl, b1⟩
  have bx := (Box.new ((w.alloc (.cells #[.int .i64 (p : Int), .int .i64 (q : Int)] 26)).alloc (.cells #[.int .i64 (r : Int), .int .i64 (s : Int)] 26)) 26 #[.int .i64 0, .int .i64 0]).then b1
  have hb := below_then ((((Below.refl _ w).alloc (Nat.le_refl _) (.cells #[.int .i64 (p : Int), .int .i64 (q : Int)] 26)).alloc (by simp) (.cells #[.int .i64 (r : Int), .int .i64 (s : Int)] 26)).alloc (by simp; omega) (.cells #[.int .i64 0, .int .i64 0] 26)) (by simp; omega) b1
  have hgs : ((w.alloc (.cells #[.int .i64 (p : Int), .int .i64 (q : Int)] 26)).alloc (.cells #[.int .i64 (r : Int), .int .i64 (s : Int)] 26)).heap.size = w.heap.size + 1 + 1 := by simp
  rw [hgs] at bx
  have c0 := bx.cell 0
  have c1 := bx.cell 1
  have f0 := bx.free 0
  have f1 := bx.free 1
  have bx2 := bx.set 0 (.int .i64 (f.1 : Int))
  have d1 := bx2.cell 1
  have g1 := bx2.free 1
  go_wp2_with fail
  refine bodyPost_ret (res_frac rfl _ _ (w.heap.size + 1 + 1) (.int .i64 (f.1 : Int)) (.int .i64 (f.2 : Int)) rfl (by simpa using bx2.set 1 (.int .i64 (f.2 : Int)))) rfl ?_
  exact ⟨rfl, below_setW (below_setW hb hb.size (by omega) 0 _) (by simpa using hb.size) (by omega) 1 _⟩
set_option maxHeartbeats 1000000 in
theorem turnedCell_c (a b i : Nat) (w : World) (ha : 1 ≤ a ∧ a ≤ 5) (hb : b ≤ 5) (hi : i ≤ 1000) : Calls Try.prog 13 #[.int .i64 (a : Int), .int .i64 (b : Int), .int .i64 (i : Int)] w (Plain (.int .i64 ((i % a * b + i / a : Nat) : Int)) w) := by
  have ha0 : a ≠ 0 := by omega
  have t1 : Int.tdiv (i : Int) (a : Int) = ((i / a : Nat) : Int) := rfl
  have t3 : Int.tmod (i : Int) (a : Int) = ((i % a : Nat) : Int) := rfl
  have u1 := Nat.div_le_self i a
  have u3 := Nat.mod_lt i (show 0 < a by omega)
  generalize i / a = p at *
  generalize i % a = q at *
  have hqb : q * b ≤ 5 * 5 := Nat.mul_le_mul (by omega) hb
  have e1 : IntKind.i64.wrap (p : Int) = (p : Int) := IntWalk.i64_in _ (by omega)
  have e2 : IntKind.i64.wrap (q : Int) = (q : Int) := IntWalk.i64_in _ (by omega)
  have e3 : IntKind.i64.wrap ((q : Int) * (b : Int)) = ((q * b : Nat) : Int) := (IntWalk.i64_in _ (by rw [← Int.natCast_mul]; omega)).trans (Int.natCast_mul _ _).symm
  obtain ⟨r, hr⟩ : ∃ r, q * b = r := ⟨_, rfl⟩
  rw [hr] at e3 hqb ⊢
  have e4 : IntKind.i64.wrap ((r : Int) + (p : Int)) = ((r + p : Nat) : Int) := (IntWalk.i64_in _ (by omega)).trans (by omega)
  obtain ⟨t, ht⟩ : ∃ t, r + p = t := ⟨_, rfl⟩
  rw [ht] at e4 ⊢
  clear hr ht u1 u3 hqb
  go_enter Try.func13, Try.ntmps13
  go_wp2_with fail
  go_quiet (fail)
  all_goals go_wp2_with fail
  go_ret
  exact ⟨rfl, below_drewN (Below.refl _ _) _⟩
end Go.Proofs.Ytoapmmmmdfmaeac
