/-
  PWalkA, PWalkB in one text.
-/
import Derived.Test.YtoapmmmmdfmaeaaWalkA
import Derived.Test.YtoapmmmmdfmaeaaElimP
import Derived.Defers
/-
  Walks by chance: the program's reduce.
-/
namespace Go.Proofs.Ytoapmmmmdfmaeaa
open Go.RowKit
set_option linter.unusedVariables false

theorem grown_drewP {W w' : World} {r : Option Nat} (m : Nat) (h : (W.drewN m).grownBy w' r) : W.grownBy w' r := ⟨h.os, h.tape, h.output, h.size, h.block⟩
theorem grown_setP (W : World) (g i : Nat) (u : Value) : W.grownBy (W.setCell ⟨g, i, none⟩ u) (some g) := ⟨rfl, rfl, rfl, by simp, fun j _ hne => Below.heap_setCell W ⟨g, i, none⟩ u j (fun e => hne (by rw [e]))⟩
theorem grown_then {a b c : World} {g : Nat} (h : a.grownBy b (some g)) (k : b.grownBy c (some g)) : a.grownBy c (some g) :=
  ⟨k.os.trans h.os, k.tape.trans h.tape, k.output.trans h.output, Nat.le_trans h.size k.size, fun i hi hne => (k.block i (Nat.lt_of_lt_of_le hi h.size) hne).trans (h.block i hi hne)⟩
set_option maxHeartbeats 1000000 in
theorem reduce_d (g u d : Nat) (W : World) (md : FrameMode) (hb : Box W g 32 #[.int .i64 (u : Int), .int .i64 (d : Int)]) (hd : 1 ≤ d) (hu : u ≤ 4000000000000000000) (hdd : d ≤ 4000000000000000000) :
    CallsD Try.prog 58 #[.pointer (some ⟨g, 0, none⟩)] md W fun e md' w' => md' = md ∧ (e = .returned (.tuple #[]) ∧ Box w' g 32 #[.int .i64 ((fracP u d).1 : Int), .int .i64 ((fracP u d).2 : Int)] ∧ W.grownBy w' (some g)) := by
  have c0 := hb.cell 0
  have c1 := hb.cell 1
  have f0 := hb.free 0
  have f1 := hb.free 1
  have HB := hide hb
  clear hb
  go_enter_d Try.func58, Try.ntmps58
  go_wp2_with fail
  go_region
  all_goals go_wp2_with fail
  go_loopw [2, 3] (fun fv rv wr => ∃ x y m : Nat, fv = .int .i64 (x : Int) ∧ rv = .int .i64 (y : Int) ∧ x ≤ 4000000000000000000 ∧ y ≤ 4000000000000000000 ∧ Hid (Nat.gcd x y = Nat.gcd u d) ∧ wr = W.drewN m) (fun _ rv _ => (intOf rv).toNat)
  case atStart => exact ⟨d, u, 1, rfl, rfl, hdd, hu, Nat.gcd_comm d u, rfl⟩
  case round =>
    obtain ⟨x, y, m, rfl, rfl, hx, hy, hg, rfl⟩ := hrel
    by_cases hz : y = 0
    · subst hz
      have hxg := hg.out
      rw [Nat.gcd_zero_right] at hxg
      have hg1 := gcd_pos (u := u) hd
      rw [← hxg] at hg1
      have q1 : Int.tdiv (u : Int) (x : Int) = ((u / x : Nat) : Int) := rfl
      have q2 : Int.tdiv (d : Int) (x : Int) = ((d / x : Nat) : Int) := rfl
      have l1 := Nat.div_le_self u x
      have l2 := Nat.div_le_self d x
      have HV := hide (show fracP u d = (u / x, d / x) by unfold fracP; rw [← hxg])
      generalize u / x = p at *
      generalize d / x = q at *
      have hx0 : x ≠ 0 := by omega
      have hx0' : ¬ ((x : Int) = 0) := by omega
      have e1 : IntKind.i64.wrap (p : Int) = (p : Int) := IntWalk.i64_in _ (by omega)
      have e2 : IntKind.i64.wrap (q : Int) = (q : Int) := IntWalk.i64_in _ (by omega)
      clear hxg hg hg1
      have bx0 : Box (W.drewN m) g 32 #[.int .i64 (u : Int), .int .i64 (d : Int)] := HB.out
      have bx1 := bx0.set 0 (.int .i64 (p : Int))
      have t1 := bx1.cell 1
      have g1 := bx1.free 1
      have bx2 := hide (bx1.set 1 (.int .i64 (q : Int)))
      have HG := hide (grown_drewP m (grown_then (grown_setP (W.drewN m) g 0 (.int .i64 (p : Int))) (grown_setP ((W.drewN m).setCell ⟨g, 0, none⟩ (.int .i64 (p : Int))) g 1 (.int .i64 (q : Int)))))
      clear bx0 bx1
      go_wp2_with fail
      go_end0
      exact ⟨rfl, by rw [HV.out]; simpa using bx2.out, HG.out⟩
    · have hz0 : 0 < y := Nat.pos_of_ne_zero hz
      have hz1 : ¬ ((y : Int) = 0) := by omega
      have hz2 : (0 : Int) < (y : Int) := by omega
      have hlt : x % y < y := Nat.mod_lt x (by omega)
      have HG := hide (show Nat.gcd y (x % y) = Nat.gcd u d by rw [← hg.out, Nat.gcd_comm x y, Nat.gcd_rec y x, Nat.gcd_comm])
      have t1 : Int.tmod (x : Int) (y : Int) = ((x % y : Nat) : Int) := rfl
      have t2 : (x : Int) % (y : Int) = ((x % y : Nat) : Int) := rfl
      obtain ⟨z, hzz⟩ : ∃ z, x % y = z := ⟨_, rfl⟩
      rw [hzz] at hlt HG t1 t2
      have e1 : IntKind.i64.wrap (z : Int) = (z : Int) := IntWalk.i64_in _ (by omega)
      clear hg hzz
      go_wp2_with fail
      go_region
      all_goals go_wp2_with fail
      exact ⟨⟨y, z, m + 1, rfl, rfl, hy, by omega, HG.out, rfl⟩, by simp [intOf]; omega⟩
end Go.Proofs.Ytoapmmmmdfmaeaa

/-
  Walks by chance: the program's whole, plus, times, over.
-/
namespace Go.Proofs.Ytoapmmmmdfmaeaa
open Go.RowKit
set_option linter.unusedVariables false

theorem pWhole_c (u : Int) (w : World) : Calls Try.prog 36 #[.int .i64 u] w (Plain (.agg #[.int .i64 u, .int .i64 1]) w) := by
  go_enter Try.func36, Try.ntmps36
  go_wp2_with fail
  refine bodyPost_ret (res_frac rfl _ _ w.heap.size (.int .i64 u) (.int .i64 1) rfl (Box.new w 32 #[.int .i64 u, .int .i64 1])) rfl ?_
  exact ⟨rfl, (Below.refl _ _).alloc (Nat.le_refl _) _⟩
theorem three_new (w : World) (a b c : Array Value) : Box (((w.alloc (.cells a 32)).alloc (.cells b 32)).alloc (.cells c 32)) (w.heap.size + 1 + 1) 32 c ∧ Below w.heap.size w (((w.alloc (.cells a 32)).alloc (.cells b 32)).alloc (.cells c 32)) := by
  have h := Box.new ((w.alloc (.cells a 32)).alloc (.cells b 32)) 32 c
  have hs : ((w.alloc (.cells a 32)).alloc (.cells b 32)).heap.size = w.heap.size + 1 + 1 := by simp
  rw [hs] at h
  exact ⟨h, (((Below.refl _ w).alloc (Nat.le_refl _) _).alloc (by simp) _).alloc (by simp; omega) _⟩
theorem three_end {w w2 : World} {a b c : Array Value} (hg : (((w.alloc (.cells a 32)).alloc (.cells b 32)).alloc (.cells c 32)).grownBy w2 (some (w.heap.size + 1 + 1))) : Below w.heap.size w w2 :=
  (three_new w a b c).2.grown hg (three_new w a b c).2.size (fun k e => by injection e with e; omega)
set_option maxHeartbeats 1000000 in
theorem pOver_c (a b : Nat × Nat) (w : World) (h : quoF a b = true) : Calls Try.prog 38 #[fracV a, fracV b] w (Plain (fracV (quoP a b)) w) := by
  obtain ⟨h1, h2, h3, h5, h6⟩ := quoF_is h
  obtain ⟨p, q⟩ := a
  obtain ⟨r, s⟩ := b
  simp only at h1 h2 h3 h5 h6
  have m4 : 1 ≤ q * r := Nat.mul_pos h1 h2
  have HV : Hid (quoP (p, q) (r, s) = fracP (p * s) (q * r)) := rfl
  have e1 : IntKind.i64.wrap ((p : Int) * (s : Int)) = ((p * s : Nat) : Int) := (IntWalk.i64_in _ (by rw [← Int.natCast_mul]; omega)).trans (Int.natCast_mul _ _).symm
  have e2 : IntKind.i64.wrap ((q : Int) * (r : Int)) = ((q * r : Nat) : Int) := (IntWalk.i64_in _ (by rw [← Int.natCast_mul]; omega)).trans (Int.natCast_mul _ _).symm
  generalize p * s = t at *
  generalize q * r = z at *
  rw [HV.out]
  clear HV h1 h2 h3
  clear h
  go_enter_defers Try.func38, Try.ntmps38
  go_wp2_with fail
  refine leaves_cons (f := 58) (args := #[.pointer (some ⟨w.heap.size + 1 + 1, 0, none⟩)]) (by simp) (by simp [go_sem]) ?_
  refine (reduce_d (w.heap.size + 1 + 1) t z _ .returning (three_new w _ _ _).1 m4 h5 h6).mono ?_
  rintro e u' w2 ⟨rfl, rfl, bx, hg⟩
  exact ⟨_, res_frac rfl _ _ (w.heap.size + 1 + 1) _ _ rfl bx, rfl, three_end hg⟩
theorem pOverC (a b : Nat × Nat) (w : World) (h : isF (quoC a b) = true) : Calls Try.prog 38 #[fracV a, fracV b] w (Plain (fracV (quoC a b)) w) := by
  obtain ⟨h1, h2⟩ := quoC_ok h
  rw [h2]
  exact pOver_c a b w h1
end Go.Proofs.Ytoapmmmmdfmaeaa
