
/-
  Laws at the operations of a region: a new array, an array stored into it.
-/
import Derived.Test.YtnikgnicjbcbmaaDoorPTileK
import Derived.OwnWalk
import Derived.Deep.RegionHeld3
namespace Go.Proofs.YtnikgnicjbcbmaaDoor
open Go.RowKit Go.Maps
set_option linter.unusedVariables false

theorem run_alloc5 (w : World) : (Instr.alloc 58 true (.tuple #[])).run Tryd.prog w = .ok (.pointer (some ⟨w.heap.size, 0, none⟩)) (w.alloc (.cells #[.bool false, .bool false, .bool false, .bool false, .bool false] 58)) := by kernel_rfl
theorem step_alloc5 {ops : Array Oper} {o : Oper} {a : Act} {w : World} {K : Act → World → Prop} {Q : Exit → Act → World → Prop} {E : Prop} (hgd : o.guard = none) (hop : o.op = Op.alloc 58)
    (h : ∀ (w' : World) (g : Nat), g = w.heap.size → Box w' g 58 (bitsF fun _ => false) → Below w.heap.size w w' → K (a.put o.dst (.pointer (some ⟨g, 0, none⟩))) w') : if Region.wanted o (yielded ops a.tmps) = true then Oper.wp Tryd.prog o a w K Q else E := by
  have hw : Region.wanted o (yielded ops a.tmps) = true := by simp [Region.wanted, hgd]
  rw [if_pos hw]
  have hrun := run_alloc5 w
  unfold Oper.wp
  simp [execOp, hop, hrun, Result.andThen]
  exact h _ _ rfl (Box.new w 58 _) ((Below.refl _ _).alloc (Nat.le_refl _) _)
theorem run_store5 {w : World} {g : Nat} {f0 : Nat → Bool} (h : Box w g 58 (bitsF f0)) (f : Nat → Bool) :
    (Instr.storeAt 58 (.pointer (some ⟨g, 0, none⟩)) (.agg #[.bool (f 0), .bool (f 1), .bool (f 2), .bool (f 3), .bool (f 4)])).run Tryd.prog w =
      .ok () (((((w.setCell ⟨g, 0, none⟩ (.bool (f 0))).setCell ⟨g, 1, none⟩ (.bool (f 1))).setCell ⟨g, 2, none⟩ (.bool (f 2))).setCell ⟨g, 3, none⟩ (.bool (f 3))).setCell ⟨g, 4, none⟩ (.bool (f 4))) := by
  obtain ⟨t0, f0', t1, f1, t2, f2, t3, f3, t4, f4, r0, r1, r2, r3, r4, _⟩ := end5 h f
  simp [Instr.storeAt, go_sem, t0, f0', t1, f1, t2, f2, t3, f3, t4, f4]
theorem grown_then {a b c : World} {row : Option Nat} (h : a.grownBy b row) (k : b.grownBy c row) : a.grownBy c row :=
  ⟨k.os.trans h.os, k.tape.trans h.tape, k.output.trans h.output, Nat.le_trans h.size k.size, fun i hi hne => (k.block i (Nat.lt_of_lt_of_le hi h.size) hne).trans (h.block i hi hne)⟩
theorem step_store5 {ops : Array Oper} {o : Oper} {a : Act} {w : World} {K : Act → World → Prop} {Q : Exit → Act → World → Prop} {E : Prop} (hgd : o.guard = none) (ad x : Operand) (hop : o.op = Op.store 58 ad x)
    {g : Nat} {f0 : Nat → Bool} (hb : Box w g 58 (bitsF f0)) (f : Nat → Bool) (ha : a.eval ad = .pointer (some ⟨g, 0, none⟩)) (hx : a.eval x = .agg #[.bool (f 0), .bool (f 1), .bool (f 2), .bool (f 3), .bool (f 4)])
    (h : ∀ w' : World, Box w' g 58 (bitsF f) → w.grownBy w' (some g) → K (a.put o.dst undef) w') : if Region.wanted o (yielded ops a.tmps) = true then Oper.wp Tryd.prog o a w K Q else E := by
  have hw : Region.wanted o (yielded ops a.tmps) = true := by simp [Region.wanted, hgd]
  rw [if_pos hw]
  have hrun := run_store5 hb f
  obtain ⟨t0, f0', t1, f1, t2, f2, t3, f3, t4, f4, r0, r1, r2, r3, r4, hbx⟩ := end5 hb f
  have hg := grown_then (grown_then (grown_then (grown_then (grown_set5 w ⟨g, 0, none⟩ (.bool (f 0))) (grown_set5 _ ⟨g, 1, none⟩ (.bool (f 1)))) (grown_set5 _ ⟨g, 2, none⟩ (.bool (f 2)))) (grown_set5 _ ⟨g, 3, none⟩ (.bool (f 3)))) (grown_set5 _ ⟨g, 4, none⟩ (.bool (f 4)))
  unfold Oper.wp
  simp [execOp, hop, ha, hx, hrun, Result.andThen]
  exact h _ hbx hg
theorem box_ne {w : World} {g g' : Nat} {t : TypeId} {cs : Array Value} (h : Box w g t cs) (e : g' = w.heap.size) : g ≠ g' := by
  have := h.in_
  omega
theorem Box.grownN {w w' : World} {g r : Nat} {t : TypeId} {cs : Array Value} (h : Box w g t cs) (hg : w.grownBy w' (some r)) (hne : g ≠ r) : Box w' g t cs := h.grown hg (fun e => hne (by injection e with e; exact e.symm))
theorem below_grownN {B : Nat} {a w w' : World} {r : Nat} (h : Below B a w) (hg : w.grownBy w' (some r)) (hB : B ≤ w.heap.size) (hr : B ≤ r) : Below B a w' := h.grown hg hB (fun j hj => by injection hj with hj; omega)
theorem alloc_far_c (w : World) (o : Obj) (g i : Nat) (h : g < w.heap.size) : (w.alloc o).cell? ⟨g, i, none⟩ = w.cell? ⟨g, i, none⟩ := World.cell?_alloc_lt w o ⟨g, i, none⟩ h
theorem alloc_far_f (w : World) (o : Obj) (g i : Nat) (h : g < w.heap.size) : (w.alloc o).frozen? ⟨g, i, none⟩ = w.frozen? ⟨g, i, none⟩ := World.frozen?_alloc_old w o ⟨g, i, none⟩ (by simp; omega)
theorem alloc_in_c (w : World) (o o2 : Obj) (i : Nat) : ((w.alloc o).alloc o2).cell? ⟨w.heap.size, i, none⟩ = (w.alloc o).cell? ⟨w.heap.size, i, none⟩ := alloc_far_c _ _ _ _ (by simp)
theorem alloc_in_f (w : World) (o o2 : Obj) (i : Nat) : ((w.alloc o).alloc o2).frozen? ⟨w.heap.size, i, none⟩ = (w.alloc o).frozen? ⟨w.heap.size, i, none⟩ := alloc_far_f _ _ _ _ (by simp)
theorem lt4 {a b : Nat} (h : a < b) : a ≠ b ∧ b ≠ a ∧ a ≠ b + 1 ∧ b + 1 ≠ a := by omega
end Go.Proofs.YtnikgnicjbcbmaaDoor
