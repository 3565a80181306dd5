
/-
  Walks by chance: the model's gcd, frac, plus.
-/
import Derived.Test.YtoapmmmmdfmaeacWalkP
import Derived.Test.YtoapmmmmdfmaeacSpecM
import Derived.Lib.MinMax
import Derived.BigRegion
import Derived.Laws.ResultCell
import Derived.Laws.Rows
namespace Go.Proofs.Ytoapmmmmdfmaeac
open Go.RowKit
set_option linter.unusedVariables false

abbrev fracV (p : Nat × Nat) : Value := .agg #[.int .i64 (p.1 : Int), .int .i64 (p.2 : Int)]
theorem info_frac : (Try.prog.info? 26).map (·.size) = some 2 := by kernel_rfl
theorem res_frac {fn : Func} {p : Tmp} (h : fn.results = #[.cell p 26]) (tmps : Array Value) (w : World) (g : Nat) (x y : Value) (hp : tmps.getD p undef = .pointer (some ⟨g, 0, none⟩)) (hg : Box w g 26 #[x, y]) :
    (results fn tmps).run Try.prog w = .ok (.agg #[x, y]) w := results_cell_row h tmps w g 26 #[x, y] (0, 0) _ hp hg Try.underlying26 rfl info_frac
theorem res_frac2 {fn : Func} {p u : Tmp} (h : fn.results = #[.cell p 26, .tmp u]) (tmps : Array Value) (w : World) (g : Nat) (x y : Value) (hp : tmps.getD p undef = .pointer (some ⟨g, 0, none⟩)) (hg : Box w g 26 #[x, y]) :
    (results fn tmps).run Try.prog w = .ok (.tuple #[.agg #[x, y], tmps.getD u undef]) w := by
  rw [results_cell_tmp h, hp]
  have hl := run_loadVar_row (P := Try.prog) w g 26 26 #[x, y] (0, 0) _ hg Try.underlying26 rfl info_frac
  simp [asAddr, hl]
theorem below_setW {B : Nat} {w w1 : World} (h : Below B w w1) (hB : B ≤ w1.heap.size) {g : Nat} (hg : B ≤ g) (i : Nat) (u : Value) : Below B w (w1.setCell ⟨g, i, none⟩ u) :=
  h.grown (row := some g) ⟨rfl, rfl, rfl, by simp, fun j _ hne => Below.heap_setCell w1 ⟨g, i, none⟩ u j (fun e => hne (by rw [e]))⟩ hB (fun z e => by injection e with e; omega)
theorem gcd_pos {u d : Nat} (hd : 1 ≤ d) : 1 ≤ Nat.gcd u d := Nat.gcd_pos_of_pos_right u hd
theorem fracP_le {u d B : Nat} (hu : u ≤ B) (hd : d ≤ B) : (fracP u d).1 ≤ B ∧ (fracP u d).2 ≤ B := ⟨Nat.le_trans (Nat.div_le_self _ _) hu, Nat.le_trans (Nat.div_le_self _ _) hd⟩
set_option maxHeartbeats 1000000 in
theorem gcd_c (a b : Nat) (w : World) (ha : a ≤ 2000000000000000000) (hb : b ≤ 2000000000000000000) : Calls Try.prog 64 #[.int .i64 (a : Int), .int .i64 (b : Int)] w fun e w' => e = .returned (.int .i64 ((Nat.gcd a b : Nat) : Int)) ∧ w = w' := by
  go_enter Try.func64, Try.ntmps64
  go_wp2_with fail
  go_loopw [0, 1] (fun av bv wr => ∃ x y : Nat, av = .int .i64 (x : Int) ∧ bv = .int .i64 (y : Int) ∧ x ≤ 2000000000000000000 ∧ y ≤ 2000000000000000000 ∧ Hid (Nat.gcd x y = Nat.gcd a b) ∧ w = wr) (fun _ bv _ => (intOf bv).toNat)
  case atStart => exact ⟨a, b, rfl, rfl, ha, hb, rfl, rfl⟩
  case round =>
    obtain ⟨x, y, rfl, rfl, hx, hy, hg, rfl⟩ := hrel
    by_cases hz : y = 0
    · subst hz
      have hmx : max (x : Int) (-(x : Int)) = (x : Int) := by omega
      have e0 : IntKind.i64.wrap (-(x : Int)) = -(x : Int) := IntWalk.i64_in _ (by omega)
      have HV := hide (show x = Nat.gcd a b by rw [← hg.out, Nat.gcd_zero_right])
      clear hg
      go_wp2_with fail
      go_ret
      exact ⟨ret_int (by rw [← HV.out]), rfl⟩
    · have hz' : ((y : Int) != 0) = true := by rw [bne_iff_ne]; omega
      have hz2 : ((y : Int) == 0) = false := by rw [beq_eq_false_iff_ne]; omega
      have hlt : x % y < y := Nat.mod_lt x (by omega)
      have HG := hide (show Nat.gcd y (x % y) = Nat.gcd a b by rw [← hg.out, Nat.gcd_comm x y, Nat.gcd_rec y x, Nat.gcd_comm]
      )
      have t1 : Int.tmod (x : Int) (y : Int) = ((x % y : Nat) : Int) := rfl
      have t2 : (x : Int) % (y : Int) = ((x % y : Nat) : Int) := rfl
      obtain ⟨z, hzz⟩ : ∃ z, x % y = z := ⟨_, rfl⟩
      rw [hzz] at hlt HG t1 t2
      have e1 : IntKind.i64.wrap (z : Int) = (z : Int) := IntWalk.i64_in _ (by omega)
      clear hg hzz
      go_wp2_with fail
      exact ⟨⟨y, z, rfl, rfl, hy, by omega, HG.out, trivial⟩, by simp [intOf]; omega⟩
set_option maxHeartbeats 1000000 in
theorem frac_c (u d : Nat) (w : World) (hu : u ≤ 2000000000000000000) (hd : 1 ≤ d ∧ d ≤ 2000000000000000000) : Calls Try.prog 44 #[.int .i64 (u : Int), .int .i64 (d : Int)] w (Plain (fracV (fracP u d)) w) := by
  have HG := hide (fun w5 => gcd_c u d w5 hu hd.2)
  have hg := gcd_pos (u := u) hd.1
  have q1 : Int.tdiv (u : Int) ((Nat.gcd u d : Nat) : Int) = ((u / Nat.gcd u d : Nat) : Int) := rfl
  have q2 : Int.tdiv (d : Int) ((Nat.gcd u d : Nat) : Int) = ((d / Nat.gcd u d : Nat) : Int) := rfl
  have l1 := Nat.div_le_self u (Nat.gcd u d)
  have l2 := Nat.div_le_self d (Nat.gcd u d)
  have HV : Hid (fracP u d = (u / Nat.gcd u d, d / Nat.gcd u d)) := rfl
  generalize u / Nat.gcd u d = x at *
  generalize d / Nat.gcd u d = y at *
  generalize Nat.gcd u d = g at *
  have hg0 : g ≠ 0 := by omega
  have hdn : ¬ ((d : Int) < 0) := by omega
  have e1 : IntKind.i64.wrap (x : Int) = (x : Int) := IntWalk.i64_in _ (by omega)
  have e2 : IntKind.i64.wrap (y : Int) = (y : Int) := IntWalk.i64_in _ (by omega)
  go_enter Try.func44, Try.ntmps44
  go_wp2_with fail
  refine (HG.out _).mono ?_
  rintro e w1 ⟨rfl, rfl⟩
  go_wp2_with fail
  go_region
  all_goals go_wp2_with fail
  refine bodyPost_ret (res_frac rfl _ _ w.heap.size (.int .i64 (x : Int)) (.int .i64 (y : Int)) rfl (Box.new w 26 #[.int .i64 (x : Int), .int .i64 (y : Int)])) rfl ?_
  exact ⟨by rw [HV.out], ((Below.refl _ _).alloc (Nat.le_refl _) _).drew⟩
theorem okF_is {p : Nat × Nat} (h : okF p = true) : (1 ≤ p.2 ∧ p.2 ≤ 1000000000) ∧ p.1 ≤ 1000000000 := by
  unfold okF at h
  simp only [Bool.and_eq_true, decide_eq_true_eq] at h
  exact h
theorem mul_ok {a b : Nat} (ha : a ≤ 1000000000) (hb : b ≤ 1000000000) : a * b ≤ 1000000000000000000 := Nat.mul_le_mul ha hb
end Go.Proofs.Ytoapmmmmdfmaeac
