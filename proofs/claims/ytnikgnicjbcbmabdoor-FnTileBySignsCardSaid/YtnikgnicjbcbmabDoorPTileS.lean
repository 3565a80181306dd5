/-
  PTileK, PTileM, PTileN, PTileO, PTileL, PTileR in one text.
-/
import Derived.Test.YtnikgnicjbcbmabDoorPTileJ
import Derived.Maps.RangeWalk
import Derived.Maps.OwnOps
import Derived.Maps.Views
import Derived.DeepKeys4
import Derived.WideKeyEntry
import Derived.OwnWalk
import Derived.Deep.RegionHeld3
import Derived.Test.YtnikgnicjbcbmabDoorPTileE
import Derived.Test.YtnikgnicjbcbmabDoorTileR
import Derived.Test.YtnikgnicjbcbmabDoorTileO
/-
  Maps whose keys are rows of cells: their views; 'm[k] += c' at the operations of a region.
-/
namespace Go.Proofs.YtnikgnicjbcbmabDoor
open Go.RowKit Go.Maps
set_option linter.unusedVariables false
set_option maxRecDepth 100000

theorem coversOf_c (c b : Nat) (hc : c < 32) (hb : b < 32) (W : World) : Calls Tryd.prog 33 #[cellsV c, cellsV b] W (Owns 60 5 (waysP 6 c b).length (flatS (waysP 6 c b)) W) := coversOf_f b hb b.testBit rfl c hc c.testBit rfl W

theorem laidOutM : laidOutB Tryd.prog = true := by kernel_rfl
theorem rowRC : (60 : TypeId) < Tryd.prog.types.size := of_decide_eq_true (by kernel_rfl)
theorem wideRC : (match Tryd.prog.underlying 60 with | some (.array _ _) | some (.struct _) => true | _ => false) = true := by kernel_rfl
theorem klaw : WideMaps.KeyLaw Tryd.prog 60 := deep_law_laid laidOutM (m := 2) (by omega) rowRC (by kernel_rfl) wideRC
theorem mlawA : Keyed Tryd.prog 60 := Keyed.of_law klaw
theorem mzeroA (w : World) : (zeroValue 3).run Tryd.prog w = .ok (.int .i64 0) w := by kernel_rfl
noncomputable def klF (f : Nat → Bool) : Lit := (keyOf Tryd.prog 60 (.agg (bitsF f))).getD (.bool false)
theorem keyOf_some (a b c d e : Bool) : (keyOf Tryd.prog 60 (.agg #[.bool a, .bool b, .bool c, .bool d, .bool e])).isSome = true := by
  cases a <;> cases b <;> cases c <;> cases d <;> cases e <;> kernel_rfl
theorem keyOf_f (f : Nat → Bool) : keyOf Tryd.prog 60 (.agg (bitsF f)) = some (klF f) := by
  have h := keyOf_some (f 0) (f 1) (f 2) (f 3) (f 4)
  unfold klF
  cases e : keyOf Tryd.prog 60 (.agg (bitsF f)) with
  | some l => rfl
  | none =>
    exfalso
    have : keyOf Tryd.prog 60 (.agg (bitsF f)) = none := e
    rw [show (Value.agg #[.bool (f 0), .bool (f 1), .bool (f 2), .bool (f 3), .bool (f 4)]) = .agg (bitsF f) from rfl, this] at h
    cases h
noncomputable def klit (s : Nat) : Lit := klF s.testBit
theorem keyOf_s (s : Nat) : keyOf Tryd.prog 60 (cellsV s) = some (klit s) := keyOf_f s.testBit
theorem bits_inj {f g : Nat → Bool} (h : bitsF f = bitsF g) : ∀ i, i < 5 → f i = g i := fun i hi => by
  have h1 := bitsF_at f hi
  rw [h, bitsF_at g hi] at h1
  injection h1 with h1
  injection h1 with h1
  exact h1.symm
theorem set_inj {s t : Nat} (hs : s < 32) (ht : t < 32) (h : ∀ i, i < 5 → s.testBit i = t.testBit i) : s = t := Nat.eq_of_testBit_eq fun i => by
  by_cases hi : i < 5
  · exact h i hi
  · have hp : 2 ^ 5 ≤ 2 ^ i := Nat.pow_le_pow_right (by omega) (by omega)
    rw [Nat.testBit_lt_two_pow (by omega), Nat.testBit_lt_two_pow (by omega)]
theorem klit_inj {s t : Nat} (hs : s < 32) (ht : t < 32) (h : klit s = klit t) : s = t := by
  have h1 := keyOf_s s
  rw [h] at h1
  have h2 := mlawA.inj h1 (keyOf_s t)
  injection h2 with h2
  exact set_inj hs ht (bits_inj h2)
theorem klit_ne {s t : Nat} (hs : s < 32) (ht : t < 32) (h : s ≠ t) : klit s ≠ klit t := fun e => h (klit_inj hs ht e)
theorem klit_key (s : Nat) : WideAt.IsKeyLit (klit s) := mlawA.key (keyOf_s s)

abbrev OwnsA (w : World) (b n : Nat) (D : DataW Unit) : Prop := w.ownsMap Tryd.prog 60 (plainElem Tryd.prog 3) b n D
/-- What the map reads as: the count of each of the 32 sets; its keys are among those that are good. -/
def ViewA (D : DataW Unit) (F : Nat → Nat) (good : Nat → Prop) : Prop :=
  IsMap D ∧ (∀ t : Nat, t < 32 → D.atKey (klit t) (.lit (.int .i64 0)) = .lit (.int .i64 ((F t : Nat) : Int))) ∧ (∀ kl, Maps.has D kl = true → ∃ t : Nat, t < 32 ∧ good t ∧ kl = klit t)
theorem ViewA.congr {D : DataW Unit} {F F' : Nat → Nat} {good : Nat → Prop} (h : ViewA D F good) (he : ∀ t, t < 32 → F t = F' t) : ViewA D F' good :=
  ⟨h.1, fun t ht => by rw [h.2.1 t ht, he t ht], h.2.2⟩
theorem ViewA.empty (good : Nat → Prop) : ViewA (.map []) (fun _ => 0) good := ⟨isMap_empty, fun t _ => rfl, fun kl h => by cases h⟩
theorem ViewA.put {D : DataW Unit} {F : Nat → Nat} {good : Nat → Prop} (h : ViewA D F good) {x : Nat} (hx : x < 32) (hp : good x) (y : Nat) :
    ViewA (D.put (klit x) (.lit (.int .i64 (y : Int)))) (fun t => if t = x then y else F t) good := by
  obtain ⟨h1, h2, h3⟩ := h
  refine ⟨h1.put _ _, fun t ht => ?_, fun kl hk => ?_⟩
  · by_cases e : t = x
    · subst e
      rw [atKey_put_same h1 (k := klit t) (klit_key t)]
      simp
    · rw [atKey_put_other (klit_ne ht hx e), h2 t ht]
      simp [e]
  · by_cases e : kl = klit x
    · exact ⟨x, hx, hp, e⟩
    · rw [has_put_other e] at hk
      exact h3 kl hk
theorem ViewA.val {D : DataW Unit} {F : Nat → Nat} {good : Nat → Prop} (h : ViewA D F good) {t : Nat} (ht : t < 32) {c : Int} (hc : D.atKey (klit t) (.lit (.int .i64 0)) = .lit (.int .i64 c)) : c = ((F t : Nat) : Int) := by
  rw [h.2.1 t ht] at hc
  injection hc with hc
  injection hc with _ hc
  exact hc.symm
theorem ViewA.none {D : DataW Unit} {F : Nat → Nat} {good : Nat → Prop} (h : ViewA D F good) {t : Nat} (ht : t < 32) (hn : Maps.has D (klit t) = false) : F t = 0 := by
  have := h.2.1 t ht
  rw [atKey_of_not_has hn] at this
  injection this with this
  injection this with _ this
  omega
theorem sizeA_le {w : World} {b n : Nat} {D : DataW Unit} (h : OwnsA w b n D) : Maps.size D ≤ n := by
  obtain ⟨es, clock, _, _, hs, rfl⟩ := h
  simp only [Maps.size, length_sorted, List.length_map, Array.length_toList]
  exact hs
/-- A weighted sum over the 32 sets. -/
def wt (F R : Nat → Nat) : Nat := sumN (fun t => F t * R t) 32
theorem wt_congr {F F' R : Nat → Nat} (h : ∀ t, t < 32 → F t = F' t) : wt F R = wt F' R := sumN_congr 32 fun t ht => by rw [h t ht]
theorem wt_zero (R : Nat → Nat) : wt (fun _ => 0) R = 0 := by
  unfold wt
  rw [sumN_congr 32 (g := fun _ => 0) (fun t _ => by simp), sumN_zero]
theorem wt_put {F : Nat → Nat} {x : Nat} (hx : x < 32) (c : Nat) (R : Nat → Nat) : wt (fun t => if t = x then F x + c else F t) R = wt F R + c * R x := by
  unfold wt
  rw [sumN_congr 32 (g := fun t => F t * R t + (if t = x then c * R x else 0)) (fun t _ => by
    by_cases e : t = x
    · subst e; simp [Nat.add_mul]
    · simp [e]), sumN_add, sumN_one (f := fun t => if t = x then c * R x else 0) x 32 hx (fun i _ hi => by simp [hi])]
  simp
theorem wt_at {F : Nat → Nat} {x : Nat} (hx : x < 32) : F x ≤ wt F fun _ => 1 := by
  unfold wt
  rw [sumN_out _ x 32 hx]
  simp
/-- The counts of those that are still to come. -/
noncomputable def leftW (F : Nat → Nat) (left : Lit → Bool) (t : Nat) : Nat := if left (klit t) then F t else 0
theorem leftW_strike {F : Nat → Nat} {left : Lit → Bool} {x : Nat} (hx : x < 32) (hl : left (klit x) = true) (R : Nat → Nat) :
    wt (leftW F left) R = wt (leftW F (fun z => left z && !z.sameKey (klit x))) R + F x * R x := by
  have h : ∀ t, t < 32 → leftW F left t = (if t = x then leftW F (fun z => left z && !z.sameKey (klit x)) x + F x else leftW F (fun z => left z && !z.sameKey (klit x)) t) := fun t ht => by
    by_cases e : t = x
    · subst e
      have : (klit t).sameKey (klit t) = true := by obtain ⟨b, e⟩ := klaw.str (keyOf_s t); rw [e]; simp [Lit.sameKey]
      simp [leftW, this, hl]
    · rw [if_neg e]
      simp only [leftW, sameKey_ne (klit_ne ht hx e)]
      simp
  rw [wt_congr h, wt_put hx]

/-! ### 'm[k] += c' at the operations of a region -/
theorem step_lookup {P : Program} {ops : Array Oper} {o : Oper} {a : Act} {w : World} {K : Act → World → Prop} {Q : Exit → Act → World → Prop} {E : Prop} (hgd : o.guard = none) (m x : Operand) (t : TypeId) (hop : o.op = Op.lookup t m x false)
    (k e : TypeId) (q : IntKind) (KK : Keyed P k) (ht : P.underlying t = some (.map k e)) (he : P.underlying e = some (.int q)) (hz : (zeroValue e).run P w = .ok (.int q 0) w) (b n : Nat) (D : DataW Unit)
    (hm : a.eval m = .map (some b)) (hown : w.ownsMap P k (plainElem P e) b n D) (key : Value) (kl : Lit) (hx : a.eval x = key) (hkey : keyOf P k key = some kl) (v : Int) (hv : D.atKey kl (.lit (.int q 0)) = .lit (.int q v))
    (h : K (a.put o.dst (.int q v)) w) : if Region.wanted o (yielded ops a.tmps) = true then Oper.wp P o a w K Q else E := by
  have hw : Region.wanted o (yielded ops a.tmps) = true := by simp [Region.wanted, hgd]
  rw [if_pos hw]
  obtain ⟨c, hrun, hat, hwc⟩ := hown.lookup_int KK ht he hz hkey
  rw [hv] at hat
  injection hat with hat
  injection hat with _ hat
  subst hat
  unfold Oper.wp
  simp [execOp, hop, hm, hx, hrun, Result.andThen]
  exact h
/-- What an entry that was taken lets be stored. -/
def Stores (P : Program) (k e t : TypeId) (b n : Nat) (D : DataW Unit) (kl : Lit) (w1 : World) (st : Nat) : Prop :=
  ∀ (w2 : World) (val : Value) (d : DataW Unit) (ps : List MemPlace), w2.heap[b]? = w1.heap[b]? → plainElem P e val = some (d, ps) →
    ∃ w3, (Instr.entryStore t (.map (some b)) (goInt st) val).run P w2 = .ok () w3 ∧ w3.ownsMap P k (plainElem P e) b (n + 1) (D.put kl d) ∧ w2.grownBy w3 (some b)
theorem step_entry {P : Program} {ops : Array Oper} {o : Oper} {a : Act} {w : World} {K : Act → World → Prop} {Q : Exit → Act → World → Prop} {E : Prop} (hgd : o.guard = none) (m x : Operand) (t : TypeId) (hop : o.op = Op.mapEntry t m x)
    (k e : TypeId) (q : IntKind) (KL : WideMaps.KeyLaw P k) (ht : P.underlying t = some (.map k e)) (he : P.underlying e = some (.int q)) (hz : ∀ u : World, (zeroValue e).run P u = .ok (.int q 0) u) (b n : Nat) (D : DataW Unit)
    (hm : a.eval m = .map (some b)) (hown : w.ownsMap P k (plainElem P e) b n D) (hn : n < maxLen) (key : Value) (kl : Lit) (hx : a.eval x = key) (hkey : keyOf P k key = some kl)
    (h : ∀ (v0 : Value) (st : Nat) (w1 : World), Stores P k e t b n D kl w1 st → w.grownBy w1 (some b) → K (a.put o.dst (.tuple #[v0, goInt st])) w1) : if Region.wanted o (yielded ops a.tmps) = true then Oper.wp P o a w K Q else E := by
  have hw : Region.wanted o (yielded ops a.tmps) = true := by simp [Region.wanted, hgd]
  rw [if_pos hw]
  have hown0 := hown
  obtain ⟨es, clock, hb, F, hs, rfl⟩ := hown
  obtain ⟨v0, st, es1, clock1, hrun, _, hst⟩ := WideElems.entry_then_store KL ht hz hb F hkey
  unfold Oper.wp
  simp [execOp, hop, hm, hx, hrun, Result.andThen]
  refine h v0 st _ (fun w2 val d ps hw2 hval => ?_) ⟨rfl, rfl, rfl, by simp [ChangeMaps.setBlock], fun i _ hi => ChangeMaps.heap_setBlock_other hb _ (fun e => hi (by rw [e]))⟩
  have hw2' : w2.heap[b]? = some (.map es1 clock1) := hw2.trans (ChangeMaps.heap_setBlock_same hb _)
  obtain ⟨es', clock', hrun2, hrun3⟩ := hst w2 val hw2'
  obtain ⟨w', hrun4, hown4, _⟩ := hown0.update (Keyed.of_law KL) ht hn hkey hval
  have he' : w' = ChangeMaps.setBlock w b (.map es' clock') := by
    have := hrun4.symm.trans hrun3
    injection this
  subst he'
  obtain ⟨es5, clock5, hb5, F5, hs5, hD5⟩ := hown4
  have := hb5.symm.trans (ChangeMaps.heap_setBlock_same hb _)
  injection this with this
  injection this with e1 e2
  subst e1 e2
  exact ⟨_, hrun2, ⟨es5, clock5, ChangeMaps.heap_setBlock_same hw2' _, F5, hs5, hD5⟩, ⟨rfl, rfl, rfl, by simp [ChangeMaps.setBlock], fun i _ hi => ChangeMaps.heap_setBlock_other hw2' _ (fun e => hi (by rw [e]))⟩⟩
theorem step_estore {P : Program} {ops : Array Oper} {o : Oper} {a : Act} {w : World} {K : Act → World → Prop} {Q : Exit → Act → World → Prop} {E : Prop} (hgd : o.guard = none) (m s x : Operand) (t : TypeId) (hop : o.op = Op.entryStore t m s x)
    (k e : TypeId) (b n st : Nat) (D : DataW Unit) (kl : Lit) (w1 : World) (HS : Stores P k e t b n D kl w1 st) (hw1 : w.heap[b]? = w1.heap[b]?) (hm : a.eval m = .map (some b)) (hs : a.eval s = goInt st) (val : Value) (hx : a.eval x = val)
    (d : DataW Unit) (ps : List MemPlace) (hval : plainElem P e val = some (d, ps))
    (h : ∀ w3, w3.ownsMap P k (plainElem P e) b (n + 1) (D.put kl d) → w.grownBy w3 (some b) → K (a.put o.dst undef) w3) : if Region.wanted o (yielded ops a.tmps) = true then Oper.wp P o a w K Q else E := by
  have hw : Region.wanted o (yielded ops a.tmps) = true := by simp [Region.wanted, hgd]
  rw [if_pos hw]
  obtain ⟨w3, hrun, r1, r2⟩ := HS w val d ps hw1 hval
  unfold Oper.wp
  simp [execOp, hop, hm, hs, hx, hrun, Result.andThen]
  exact h w3 r1 r2
end Go.Proofs.YtnikgnicjbcbmabDoor

/-
  Laws at the operations of a region: a new array, an array stored into it.
-/
namespace Go.Proofs.YtnikgnicjbcbmabDoor
open Go.RowKit Go.Maps
set_option linter.unusedVariables false

theorem run_alloc5 (w : World) : (Instr.alloc 60 true (.tuple #[])).run Tryd.prog w = .ok (.pointer (some ⟨w.heap.size, 0, none⟩)) (w.alloc (.cells #[.bool false, .bool false, .bool false, .bool false, .bool false] 60)) := by kernel_rfl
theorem step_alloc5 {ops : Array Oper} {o : Oper} {a : Act} {w : World} {K : Act → World → Prop} {Q : Exit → Act → World → Prop} {E : Prop} (hgd : o.guard = none) (hop : o.op = Op.alloc 60)
    (h : ∀ (w' : World) (g : Nat), g = w.heap.size → Box w' g 60 (bitsF fun _ => false) → Below w.heap.size w w' → K (a.put o.dst (.pointer (some ⟨g, 0, none⟩))) w') : if Region.wanted o (yielded ops a.tmps) = true then Oper.wp Tryd.prog o a w K Q else E := by
  have hw : Region.wanted o (yielded ops a.tmps) = true := by simp [Region.wanted, hgd]
  rw [if_pos hw]
  have hrun := run_alloc5 w
  unfold Oper.wp
  simp [execOp, hop, hrun, Result.andThen]
  exact h _ _ rfl (Box.new w 60 _) ((Below.refl _ _).alloc (Nat.le_refl _) _)
theorem run_store5 {w : World} {g : Nat} {f0 : Nat → Bool} (h : Box w g 60 (bitsF f0)) (f : Nat → Bool) :
    (Instr.storeAt 60 (.pointer (some ⟨g, 0, none⟩)) (.agg #[.bool (f 0), .bool (f 1), .bool (f 2), .bool (f 3), .bool (f 4)])).run Tryd.prog w =
      .ok () (((((w.setCell ⟨g, 0, none⟩ (.bool (f 0))).setCell ⟨g, 1, none⟩ (.bool (f 1))).setCell ⟨g, 2, none⟩ (.bool (f 2))).setCell ⟨g, 3, none⟩ (.bool (f 3))).setCell ⟨g, 4, none⟩ (.bool (f 4))) := by
  obtain ⟨t0, f0', t1, f1, t2, f2, t3, f3, t4, f4, r0, r1, r2, r3, r4, _⟩ := end5 h f
  simp [Instr.storeAt, go_sem, t0, f0', t1, f1, t2, f2, t3, f3, t4, f4]
theorem grown_then {a b c : World} {row : Option Nat} (h : a.grownBy b row) (k : b.grownBy c row) : a.grownBy c row :=
  ⟨k.os.trans h.os, k.tape.trans h.tape, k.output.trans h.output, Nat.le_trans h.size k.size, fun i hi hne => (k.block i (Nat.lt_of_lt_of_le hi h.size) hne).trans (h.block i hi hne)⟩
theorem step_store5 {ops : Array Oper} {o : Oper} {a : Act} {w : World} {K : Act → World → Prop} {Q : Exit → Act → World → Prop} {E : Prop} (hgd : o.guard = none) (ad x : Operand) (hop : o.op = Op.store 60 ad x)
    {g : Nat} {f0 : Nat → Bool} (hb : Box w g 60 (bitsF f0)) (f : Nat → Bool) (ha : a.eval ad = .pointer (some ⟨g, 0, none⟩)) (hx : a.eval x = .agg #[.bool (f 0), .bool (f 1), .bool (f 2), .bool (f 3), .bool (f 4)])
    (h : ∀ w' : World, Box w' g 60 (bitsF f) → w.grownBy w' (some g) → K (a.put o.dst undef) w') : if Region.wanted o (yielded ops a.tmps) = true then Oper.wp Tryd.prog o a w K Q else E := by
  have hw : Region.wanted o (yielded ops a.tmps) = true := by simp [Region.wanted, hgd]
  rw [if_pos hw]
  have hrun := run_store5 hb f
  obtain ⟨t0, f0', t1, f1, t2, f2, t3, f3, t4, f4, r0, r1, r2, r3, r4, hbx⟩ := end5 hb f
  have hg := grown_then (grown_then (grown_then (grown_then (grown_set5 w ⟨g, 0, none⟩ (.bool (f 0))) (grown_set5 _ ⟨g, 1, none⟩ (.bool (f 1)))) (grown_set5 _ ⟨g, 2, none⟩ (.bool (f 2)))) (grown_set5 _ ⟨g, 3, none⟩ (.bool (f 3)))) (grown_set5 _ ⟨g, 4, none⟩ (.bool (f 4)))
  unfold Oper.wp
  simp [execOp, hop, ha, hx, hrun, Result.andThen]
  exact h _ hbx hg
theorem box_ne {w : World} {g g' : Nat} {t : TypeId} {cs : Array Value} (h : Box w g t cs) (e : g' = w.heap.size) : g ≠ g' := by
  have := h.in_
  omega
theorem Box.grownN {w w' : World} {g r : Nat} {t : TypeId} {cs : Array Value} (h : Box w g t cs) (hg : w.grownBy w' (some r)) (hne : g ≠ r) : Box w' g t cs := h.grown hg (fun e => hne (by injection e with e; exact e.symm))
theorem below_grownN {B : Nat} {a w w' : World} {r : Nat} (h : Below B a w) (hg : w.grownBy w' (some r)) (hB : B ≤ w.heap.size) (hr : B ≤ r) : Below B a w' := h.grown hg hB (fun j hj => by injection hj with hj; omega)
theorem alloc_far_c (w : World) (o : Obj) (g i : Nat) (h : g < w.heap.size) : (w.alloc o).cell? ⟨g, i, none⟩ = w.cell? ⟨g, i, none⟩ := World.cell?_alloc_lt w o ⟨g, i, none⟩ h
theorem alloc_far_f (w : World) (o : Obj) (g i : Nat) (h : g < w.heap.size) : (w.alloc o).frozen? ⟨g, i, none⟩ = w.frozen? ⟨g, i, none⟩ := World.frozen?_alloc_old w o ⟨g, i, none⟩ (by simp; omega)
theorem alloc_in_c (w : World) (o o2 : Obj) (i : Nat) : ((w.alloc o).alloc o2).cell? ⟨w.heap.size, i, none⟩ = (w.alloc o).cell? ⟨w.heap.size, i, none⟩ := alloc_far_c _ _ _ _ (by simp)
theorem alloc_in_f (w : World) (o o2 : Obj) (i : Nat) : ((w.alloc o).alloc o2).frozen? ⟨w.heap.size, i, none⟩ = (w.alloc o).frozen? ⟨w.heap.size, i, none⟩ := alloc_far_f _ _ _ _ (by simp)
theorem lt4 {a b : Nat} (h : a < b) : a ≠ b ∧ b ≠ a ∧ a ≠ b + 1 ∧ b + 1 ≠ a := by omega
end Go.Proofs.YtnikgnicjbcbmabDoor

/-
  coversByRows, its fifth region: two calls, two new arrays, two stores, in whatever order. (Written by wip/tools/genr5.py.)
-/
namespace Go.Proofs.YtnikgnicjbcbmabDoor
open Go.RowKit Go.Maps
set_option linter.unusedVariables false

theorem act_size (a : Act) (d : Option Tmp) (v : Value) : (a.put d v).tmps.size = a.tmps.size := by
  cases d <;> simp [Act.put]
theorem act_self {a : Act} {d : Tmp} (h : d < a.tmps.size) (v : Value) : (a.put (some d) v).eval (.tmp d) = v := by
  simp [Act.put, Act.eval, Array.getD, h]
theorem act_ne (a : Act) {d j : Tmp} (h : d ≠ j) (v : Value) : (a.put (some d) v).eval (.tmp j) = a.eval (.tmp j) := by
  simp only [Act.put, Act.eval, Array.getD_eq_getD_getElem?]
  rw [Array.getElem?_setIfInBounds_ne h]
theorem act_swap (a : Act) (d e : Tmp) (v u : Value) (h : d ≠ e) : (a.put (some d) v).put (some e) u = (a.put (some e) u).put (some d) v := Act.put_comm a v u (fun x hx hy => by injection hx with hx; injection hy with hy; exact h (hx.trans hy.symm))
theorem step_call3 {ops : Array Oper} {o : Oper} {a : Act} {w : World} {K : Act → World → Prop} {Q : Exit → Act → World → Prop} {E : Prop} (hgd : o.guard = none) (x y z : Operand) (ts : Array TypeId)
    (hop : o.op = Op.call { callee := Callee.value (Operand.func 32), args := #[x, y, z], argTypes := ts }) {vx vy vz v : Value} (hx : a.eval x = vx) (hy : a.eval y = vy) (hz : a.eval z = vz)
    (hc : Calls Tryd.prog 32 #[vx, vy, vz] w (Plain v w)) (h : ∀ w' : World, Below w.heap.size w w' → K (a.put o.dst v) w') : if Region.wanted o (yielded ops a.tmps) = true then Oper.wp Tryd.prog o a w K Q else E := by
  have hw : Region.wanted o (yielded ops a.tmps) = true := by simp [Region.wanted, hgd]
  rw [if_pos hw]
  have hrun : (execOp a.eval o).run Tryd.prog w = .ok (.enter 32 #[vx, vy, vz]) w := by
    have hf : a.eval (Operand.func 32) = .func (.func 32) #[] #[] := rfl
    simp only [execOp, hop, resolve, List.map_toArray, List.map_cons, List.map_nil, hx, hy, hz, hf]
    first | rfl | (simp [Deferred.ofValue, invoke, callFunc, go_sem, Tryd.func32]; done) | (simp [Deferred.ofValue, invoke, callFunc, go_sem, Tryd.func32]; rfl)
  unfold Oper.wp
  rw [hrun, Oper.upon_enter]
  refine hc.mono fun e w'' hh => ?_
  obtain ⟨rfl, hb⟩ := hh
  exact h _ hb

def ops5 : Array Oper :=
  #[{ dst := some 22, op := Op.load 32 (Operand.tmp 2), type := 32, pos := "c5_domino.go:100", after := #[], guard := none },
  { dst := some 23, op := Op.move (Operand.tmp 6), type := 3, pos := "c5_domino.go:100", after := #[], guard := none },
  { dst := some 24, op := Op.move (Operand.tmp 1), type := 3, pos := "c5_domino.go:100", after := #[], guard := none },
  { dst := some 25, op := Op.call { callee := Callee.value (Operand.func 32), args := #[Operand.tmp 22, Operand.tmp 23, Operand.tmp 24], argTypes := #[32, 3, 3] }, type := 60, pos := "c5_domino.go:100", after := #[{ on := 0, ground := Ground.data }, { on := 1, ground := Ground.data }, { on := 2, ground := Ground.data }], guard := none },
  { dst := some 26, op := Op.load 32 (Operand.tmp 2), type := 32, pos := "c5_domino.go:100", after := #[], guard := none },
  { dst := some 27, op := Op.move (Operand.tmp 6), type := 3, pos := "c5_domino.go:100", after := #[], guard := none },
  { dst := some 28, op := Op.binOp BinOp.add 3 (Operand.tmp 27) (Operand.const (Value.int IntKind.i64 1)) 3, type := 3, pos := "c5_domino.go:100", after := #[{ on := 5, ground := Ground.data }], guard := none },
  { dst := some 29, op := Op.move (Operand.tmp 1), type := 3, pos := "c5_domino.go:100", after := #[], guard := none },
  { dst := some 30, op := Op.call { callee := Callee.value (Operand.func 32), args := #[Operand.tmp 26, Operand.tmp 28, Operand.tmp 29], argTypes := #[32, 3, 3] }, type := 60, pos := "c5_domino.go:100", after := #[{ on := 4, ground := Ground.data }, { on := 6, ground := Ground.data }, { on := 7, ground := Ground.data }, { on := 3, ground := Ground.chain }], guard := none },
  { dst := some 7, op := Op.alloc 60, type := 0, pos := "c5_domino.go:100", after := #[], guard := none },
  { dst := some 8, op := Op.alloc 60, type := 0, pos := "c5_domino.go:100", after := #[], guard := none },
  { dst := none, op := Op.store 60 (Operand.tmp 7) (Operand.tmp 25), type := 0, pos := "c5_domino.go:100", after := #[{ on := 9, ground := Ground.data }, { on := 3, ground := Ground.data }, { on := 8, ground := Ground.chain }, { on := 0, ground := Ground.phase }, { on := 1, ground := Ground.phase }, { on := 2, ground := Ground.phase }, { on := 3, ground := Ground.phase }, { on := 4, ground := Ground.textOnly Departure.lateStores }, { on := 5, ground := Ground.textOnly Departure.lateStores }, { on := 6, ground := Ground.textOnly Departure.lateStores }, { on := 7, ground := Ground.textOnly Departure.lateStores }, { on := 8, ground := Ground.textOnly Departure.lateStoresUnsure }, { on := 9, ground := Ground.phase }, { on := 10, ground := Ground.phase }], guard := none },
  { dst := none, op := Op.store 60 (Operand.tmp 8) (Operand.tmp 30), type := 0, pos := "c5_domino.go:100", after := #[{ on := 10, ground := Ground.data }, { on := 8, ground := Ground.data }, { on := 11, ground := Ground.chain }, { on := 0, ground := Ground.phase }, { on := 1, ground := Ground.phase }, { on := 2, ground := Ground.phase }, { on := 3, ground := Ground.phase }, { on := 4, ground := Ground.phase }, { on := 5, ground := Ground.phase }, { on := 6, ground := Ground.phase }, { on := 7, ground := Ground.phase }, { on := 8, ground := Ground.phase }, { on := 9, ground := Ground.phase }, { on := 10, ground := Ground.phase }, { on := 11, ground := Ground.phase }], guard := none }]

theorem any_eq {P : Program} {ops : Array Oper} {Q : Exit → Act → World → Prop} {md : Region.Mode} {S : World → Prop} {fuel : Nat} {l l' : Array Bool} {a a' : Act} {w : World} (hl : l = l') (ha : a = a') (H : wpAnyH P md ops Q S fuel l' a' w) : wpAnyH P md ops Q S fuel l a w := by
  subst hl
  subst ha
  exact H
theorem load_board {w' : World} {gb : Nat} {x y : Value} (h : Box w' gb 32 #[x, y]) (hx : x.oneCell' = true) (hy : y.oneCell' = true) : (Instr.loadAt 32 (.pointer (some ⟨gb, 0, none⟩))).run Tryd.prog w' = .ok (.agg #[x, y]) w' := by
  have c0 := h.cell 0
  have c1 := h.cell 1
  simp [Instr.loadAt, go_sem, c0, c1]

set_option linter.unusedSimpArgs false
set_option maxHeartbeats 4000000 in
set_option maxRecDepth 100000 in
theorem region5_w {Q : Exit → Act → World → Prop} (hQ : ∀ c a d v w, Q (.panic c) (a.put d v) w → Q (.panic c) a w) {a : Act} {W0 : World} {gb : Nat} {w h k set : Int} {fA fB : Nat → Bool}
    (hsz : a.tmps.size = 62) (e1 : a.eval (.tmp 1) = .int .i64 set) (e2 : a.eval (.tmp 2) = .pointer (some ⟨gb, 0, none⟩)) (e6 : a.eval (.tmp 6) = .int .i64 k) (ek : IntKind.i64.wrap (k + 1) = k + 1)
    (bx : Box W0 gb 32 #[.int .i64 w, .int .i64 h])
    (HC1 : ∀ w5, Calls Tryd.prog 32 #[.agg #[.int .i64 w, .int .i64 h], .int .i64 k, .int .i64 set] w5 (Plain (.agg #[.bool (fA 0), .bool (fA 1), .bool (fA 2), .bool (fA 3), .bool (fA 4)]) w5)) (HC2 : ∀ w5, Calls Tryd.prog 32 #[.agg #[.int .i64 w, .int .i64 h], .int .i64 (k + 1), .int .i64 set] w5 (Plain (.agg #[.bool (fB 0), .bool (fB 1), .bool (fB 2), .bool (fB 3), .bool (fB 4)]) w5))
    (H : ∀ (g7 g8 : Nat) (w' : World), g7 ≠ g8 → W0.heap.size ≤ g7 → W0.heap.size ≤ g8 → Box w' g7 60 (bitsF fA) → Box w' g8 60 (bitsF fB) → Box w' gb 32 #[.int .i64 w, .int .i64 h] → Below W0.heap.size W0 w' →
      Q .normal (((((((((((a.put (some 22) (.agg #[.int .i64 w, .int .i64 h])).put (some 23) (.int .i64 k)).put (some 24) (.int .i64 set)).put (some 26) (.agg #[.int .i64 w, .int .i64 h])).put (some 27) (.int .i64 k)).put (some 28) (.int .i64 (k + 1))).put (some 29) (.int .i64 set)).put (some 25) (.agg #[.bool (fA 0), .bool (fA 1), .bool (fA 2), .bool (fA 3), .bool (fA 4)])).put (some 30) (.agg #[.bool (fB 0), .bool (fB 1), .bool (fB 2), .bool (fB 3), .bool (fB 4)])).put (some 7) (.pointer (some ⟨g7, 0, none⟩))).put (some 8) (.pointer (some ⟨g8, 0, none⟩))) w') :
    (Code.region 5 ops5 true).wp Tryd.prog Q a W0 := by
  obtain ⟨b0, hb0⟩ : ∃ b0, (((((((a.put (some 22) (.agg #[.int .i64 w, .int .i64 h])).put (some 23) (.int .i64 k)).put (some 24) (.int .i64 set)).put (some 26) (.agg #[.int .i64 w, .int .i64 h])).put (some 27) (.int .i64 k)).put (some 28) (.int .i64 (k + 1))).put (some 29) (.int .i64 set)) = b0 := ⟨_, rfl⟩
  have hbs : b0.tmps.size = 62 := by rw [← hb0]; simp [act_size, hsz]
  have b22 : b0.eval (.tmp 22) = .agg #[.int .i64 w, .int .i64 h] := by rw [← hb0]; simp [act_ne, act_self, act_size, hsz]
  have b23 : b0.eval (.tmp 23) = .int .i64 k := by rw [← hb0]; simp [act_ne, act_self, act_size, hsz]
  have b24 : b0.eval (.tmp 24) = .int .i64 set := by rw [← hb0]; simp [act_ne, act_self, act_size, hsz]
  have b26 : b0.eval (.tmp 26) = .agg #[.int .i64 w, .int .i64 h] := by rw [← hb0]; simp [act_ne, act_self, act_size, hsz]
  have b28 : b0.eval (.tmp 28) = .int .i64 (k + 1) := by rw [← hb0]; simp [act_ne, act_self, act_size, hsz]
  have b29 : b0.eval (.tmp 29) = .int .i64 set := by rw [← hb0]; simp [act_ne, act_self, act_size, hsz]
  rw [hb0] at H
  have st211 : ∀ (g7 g8 : Nat) (w' : World) (y7 : Box w' g7 60 (bitsF fun _ => false)) (l7 : W0.heap.size ≤ g7) (y8 : Box w' g8 60 (bitsF fun _ => false)) (l8 : W0.heap.size ≤ g8) (ne : g7 ≠ g8) (bg : Box w' gb 32 #[.int .i64 w, .int .i64 h]) (hb : Below W0.heap.size W0 w'), wpAnyH Tryd.prog .any ops5 Q (fun w' => Box w' gb 32 #[.int .i64 w, .int .i64 h]) 2 #[true, true, true, true, true, true, true, true, true, true, true, false, false] ((((b0.put (some 25) (.agg #[.bool (fA 0), .bool (fA 1), .bool (fA 2), .bool (fA 3), .bool (fA 4)])).put (some 30) (.agg #[.bool (fB 0), .bool (fB 1), .bool (fB 2), .bool (fB 3), .bool (fB 4)])).put (some 7) (.pointer (some ⟨g7, 0, none⟩))).put (some 8) (.pointer (some ⟨g8, 0, none⟩))) w' := by
    intro g7 g8 w' y7 l7 y8 l8 ne bg hb
    refine wpAnyH_ready (rs := [11]) (by kernel_rfl) (by simp) ?_
    refine AllReadyH.cons (o := { dst := none, op := Op.store 60 (Operand.tmp 7) (Operand.tmp 25), type := 0, pos := "c5_domino.go:100", after := #[{ on := 9, ground := Ground.data }, { on := 3, ground := Ground.data }, { on := 8, ground := Ground.chain }, { on := 0, ground := Ground.phase }, { on := 1, ground := Ground.phase }, { on := 2, ground := Ground.phase }, { on := 3, ground := Ground.phase }, { on := 4, ground := Ground.textOnly Departure.lateStores }, { on := 5, ground := Ground.textOnly Departure.lateStores }, { on := 6, ground := Ground.textOnly Departure.lateStores }, { on := 7, ground := Ground.textOnly Departure.lateStores }, { on := 8, ground := Ground.textOnly Departure.lateStoresUnsure }, { on := 9, ground := Ground.phase }, { on := 10, ground := Ground.phase }], guard := none }) rfl (fun K hK => step_store5 rfl (.tmp 7) (.tmp 25) rfl y7 fA ((act_ne _ (by decide) _).trans (act_self (by simp [act_size, hbs]) _)) ((act_ne _ (by decide) _).trans ((act_ne _ (by decide) _).trans ((act_ne _ (by decide) _).trans (act_self (by simp [act_size, hbs]) _)))) (fun w5 z7 hg => hK.out _ _ (bg.grownN hg (fun e => by have := bx.in_; omega)) (fun _ => ?_))) AllReadyH.nil
    have y8' := y8.grownN hg (Ne.symm ne)
    have bg' := bg.grownN hg (fun e => by have := bx.in_; omega)
    have hb' := below_grownN hb hg hb.size l7
    refine wpAnyH_ready (rs := [12]) (by kernel_rfl) (by simp) ?_
    refine AllReadyH.cons (o := { dst := none, op := Op.store 60 (Operand.tmp 8) (Operand.tmp 30), type := 0, pos := "c5_domino.go:100", after := #[{ on := 10, ground := Ground.data }, { on := 8, ground := Ground.data }, { on := 11, ground := Ground.chain }, { on := 0, ground := Ground.phase }, { on := 1, ground := Ground.phase }, { on := 2, ground := Ground.phase }, { on := 3, ground := Ground.phase }, { on := 4, ground := Ground.phase }, { on := 5, ground := Ground.phase }, { on := 6, ground := Ground.phase }, { on := 7, ground := Ground.phase }, { on := 8, ground := Ground.phase }, { on := 9, ground := Ground.phase }, { on := 10, ground := Ground.phase }, { on := 11, ground := Ground.phase }], guard := none }) rfl (fun K hK => step_store5 rfl (.tmp 8) (.tmp 30) rfl y8' fB (act_self (by simp [act_size, hbs]) _) ((act_ne _ (by decide) _).trans ((act_ne _ (by decide) _).trans (act_self (by simp [act_size, hbs]) _))) (fun w6 z8 hg' => hK.out _ _ (bg'.grownN hg' (fun e => by have := bx.in_; omega)) (fun _ => ?_))) AllReadyH.nil
    refine wpAnyH_done (by kernel_rfl) ?_ _
    exact H g7 g8 w6 ne l7 l8 (z7.grownN hg' ne) z8 (bg'.grownN hg' (fun e => by have := bx.in_; omega)) (below_grownN hb' hg' hb'.size l8)
  have st210 : ∀ (g7 g8 : Nat) (w' : World) (y7 : Box w' g7 60 (bitsF fun _ => false)) (l7 : W0.heap.size ≤ g7) (bg : Box w' gb 32 #[.int .i64 w, .int .i64 h]) (hb : Below W0.heap.size W0 w'), wpAnyH Tryd.prog .any ops5 Q (fun w' => Box w' gb 32 #[.int .i64 w, .int .i64 h]) 3 #[true, true, true, true, true, true, true, true, true, true, false, false, false] (((b0.put (some 25) (.agg #[.bool (fA 0), .bool (fA 1), .bool (fA 2), .bool (fA 3), .bool (fA 4)])).put (some 30) (.agg #[.bool (fB 0), .bool (fB 1), .bool (fB 2), .bool (fB 3), .bool (fB 4)])).put (some 7) (.pointer (some ⟨g7, 0, none⟩))) w' := by
    intro g7 g8 w' y7 l7 bg hb
    refine wpAnyH_ready (rs := [10]) (by kernel_rfl) (by simp) ?_
    refine AllReadyH.cons (o := { dst := some 8, op := Op.alloc 60, type := 0, pos := "c5_domino.go:100", after := #[], guard := none }) rfl (fun K hK => step_alloc5 rfl rfl (fun w5 g hg y b5 => hK.out _ _ (bg.then b5) (fun _ => any_eq (by rfl) (rfl) (st211 g7 g w5 (y7.then b5) l7 y (hg ▸ hb.size) (fun e => by have := y7.in_; omega) (bg.then b5) (below_then hb hb.size b5))))) ?_
    exact AllReadyH.nil
  have st201 : ∀ (g7 g8 : Nat) (w' : World) (y8 : Box w' g8 60 (bitsF fun _ => false)) (l8 : W0.heap.size ≤ g8) (bg : Box w' gb 32 #[.int .i64 w, .int .i64 h]) (hb : Below W0.heap.size W0 w'), wpAnyH Tryd.prog .any ops5 Q (fun w' => Box w' gb 32 #[.int .i64 w, .int .i64 h]) 3 #[true, true, true, true, true, true, true, true, true, false, true, false, false] (((b0.put (some 25) (.agg #[.bool (fA 0), .bool (fA 1), .bool (fA 2), .bool (fA 3), .bool (fA 4)])).put (some 30) (.agg #[.bool (fB 0), .bool (fB 1), .bool (fB 2), .bool (fB 3), .bool (fB 4)])).put (some 8) (.pointer (some ⟨g8, 0, none⟩))) w' := by
    intro g7 g8 w' y8 l8 bg hb
    refine wpAnyH_ready (rs := [9]) (by kernel_rfl) (by simp) ?_
    refine AllReadyH.cons (o := { dst := some 7, op := Op.alloc 60, type := 0, pos := "c5_domino.go:100", after := #[], guard := none }) rfl (fun K hK => step_alloc5 rfl rfl (fun w5 g hg y b5 => hK.out _ _ (bg.then b5) (fun _ => any_eq (by rfl) (by rw [act_swap _ 8 7 _ _ (by decide)]) (st211 g g8 w5 y (hg ▸ hb.size) (y8.then b5) l8 (fun e => by have := y8.in_; omega) (bg.then b5) (below_then hb hb.size b5))))) ?_
    exact AllReadyH.nil
  have st200 : ∀ (g7 g8 : Nat) (w' : World) (bg : Box w' gb 32 #[.int .i64 w, .int .i64 h]) (hb : Below W0.heap.size W0 w'), wpAnyH Tryd.prog .any ops5 Q (fun w' => Box w' gb 32 #[.int .i64 w, .int .i64 h]) 4 #[true, true, true, true, true, true, true, true, true, false, false, false, false] ((b0.put (some 25) (.agg #[.bool (fA 0), .bool (fA 1), .bool (fA 2), .bool (fA 3), .bool (fA 4)])).put (some 30) (.agg #[.bool (fB 0), .bool (fB 1), .bool (fB 2), .bool (fB 3), .bool (fB 4)])) w' := by
    intro g7 g8 w' bg hb
    refine wpAnyH_ready (rs := [9, 10]) (by kernel_rfl) (by simp) ?_
    refine AllReadyH.cons (o := { dst := some 7, op := Op.alloc 60, type := 0, pos := "c5_domino.go:100", after := #[], guard := none }) rfl (fun K hK => step_alloc5 rfl rfl (fun w5 g hg y b5 => hK.out _ _ (bg.then b5) (fun _ => any_eq (by rfl) (rfl) (st210 g g8 w5 y (hg ▸ hb.size) (bg.then b5) (below_then hb hb.size b5))))) ?_
    refine AllReadyH.cons (o := { dst := some 8, op := Op.alloc 60, type := 0, pos := "c5_domino.go:100", after := #[], guard := none }) rfl (fun K hK => step_alloc5 rfl rfl (fun w5 g hg y b5 => hK.out _ _ (bg.then b5) (fun _ => any_eq (by rfl) (rfl) (st201 g7 g w5 y (hg ▸ hb.size) (bg.then b5) (below_then hb hb.size b5))))) ?_
    exact AllReadyH.nil
  have st111 : ∀ (g7 g8 : Nat) (w' : World) (y7 : Box w' g7 60 (bitsF fun _ => false)) (l7 : W0.heap.size ≤ g7) (y8 : Box w' g8 60 (bitsF fun _ => false)) (l8 : W0.heap.size ≤ g8) (ne : g7 ≠ g8) (bg : Box w' gb 32 #[.int .i64 w, .int .i64 h]) (hb : Below W0.heap.size W0 w'), wpAnyH Tryd.prog .any ops5 Q (fun w' => Box w' gb 32 #[.int .i64 w, .int .i64 h]) 3 #[true, true, true, true, true, true, true, true, false, true, true, false, false] (((b0.put (some 25) (.agg #[.bool (fA 0), .bool (fA 1), .bool (fA 2), .bool (fA 3), .bool (fA 4)])).put (some 7) (.pointer (some ⟨g7, 0, none⟩))).put (some 8) (.pointer (some ⟨g8, 0, none⟩))) w' := by
    intro g7 g8 w' y7 l7 y8 l8 ne bg hb
    refine wpAnyH_ready (rs := [8]) (by kernel_rfl) (by simp) ?_
    refine AllReadyH.cons (o := { dst := some 30, op := Op.call { callee := Callee.value (Operand.func 32), args := #[Operand.tmp 26, Operand.tmp 28, Operand.tmp 29], argTypes := #[32, 3, 3] }, type := 60, pos := "c5_domino.go:100", after := #[{ on := 4, ground := Ground.data }, { on := 6, ground := Ground.data }, { on := 7, ground := Ground.data }, { on := 3, ground := Ground.chain }], guard := none }) rfl (fun K hK => step_call3 rfl (.tmp 26) (.tmp 28) (.tmp 29) _ rfl ((act_ne _ (by decide) _).trans ((act_ne _ (by decide) _).trans ((act_ne _ (by decide) _).trans b26))) ((act_ne _ (by decide) _).trans ((act_ne _ (by decide) _).trans ((act_ne _ (by decide) _).trans b28))) ((act_ne _ (by decide) _).trans ((act_ne _ (by decide) _).trans ((act_ne _ (by decide) _).trans b29))) (HC2 _) (fun w5 b5 => hK.out _ _ (bg.then b5) (fun _ => any_eq (by rfl) (by rw [act_swap _ 8 30 _ _ (by decide), act_swap _ 7 30 _ _ (by decide)]) (st211 g7 g8 w5 (y7.then b5) l7 (y8.then b5) l8 ne (bg.then b5) (below_then hb hb.size b5))))) ?_
    exact AllReadyH.nil
  have st110 : ∀ (g7 g8 : Nat) (w' : World) (y7 : Box w' g7 60 (bitsF fun _ => false)) (l7 : W0.heap.size ≤ g7) (bg : Box w' gb 32 #[.int .i64 w, .int .i64 h]) (hb : Below W0.heap.size W0 w'), wpAnyH Tryd.prog .any ops5 Q (fun w' => Box w' gb 32 #[.int .i64 w, .int .i64 h]) 4 #[true, true, true, true, true, true, true, true, false, true, false, false, false] ((b0.put (some 25) (.agg #[.bool (fA 0), .bool (fA 1), .bool (fA 2), .bool (fA 3), .bool (fA 4)])).put (some 7) (.pointer (some ⟨g7, 0, none⟩))) w' := by
    intro g7 g8 w' y7 l7 bg hb
    refine wpAnyH_ready (rs := [8, 10]) (by kernel_rfl) (by simp) ?_
    refine AllReadyH.cons (o := { dst := some 30, op := Op.call { callee := Callee.value (Operand.func 32), args := #[Operand.tmp 26, Operand.tmp 28, Operand.tmp 29], argTypes := #[32, 3, 3] }, type := 60, pos := "c5_domino.go:100", after := #[{ on := 4, ground := Ground.data }, { on := 6, ground := Ground.data }, { on := 7, ground := Ground.data }, { on := 3, ground := Ground.chain }], guard := none }) rfl (fun K hK => step_call3 rfl (.tmp 26) (.tmp 28) (.tmp 29) _ rfl ((act_ne _ (by decide) _).trans ((act_ne _ (by decide) _).trans b26)) ((act_ne _ (by decide) _).trans ((act_ne _ (by decide) _).trans b28)) ((act_ne _ (by decide) _).trans ((act_ne _ (by decide) _).trans b29)) (HC2 _) (fun w5 b5 => hK.out _ _ (bg.then b5) (fun _ => any_eq (by rfl) (by rw [act_swap _ 7 30 _ _ (by decide)]) (st210 g7 g8 w5 (y7.then b5) l7 (bg.then b5) (below_then hb hb.size b5))))) ?_
    refine AllReadyH.cons (o := { dst := some 8, op := Op.alloc 60, type := 0, pos := "c5_domino.go:100", after := #[], guard := none }) rfl (fun K hK => step_alloc5 rfl rfl (fun w5 g hg y b5 => hK.out _ _ (bg.then b5) (fun _ => any_eq (by rfl) (rfl) (st111 g7 g w5 (y7.then b5) l7 y (hg ▸ hb.size) (fun e => by have := y7.in_; omega) (bg.then b5) (below_then hb hb.size b5))))) ?_
    exact AllReadyH.nil
  have st101 : ∀ (g7 g8 : Nat) (w' : World) (y8 : Box w' g8 60 (bitsF fun _ => false)) (l8 : W0.heap.size ≤ g8) (bg : Box w' gb 32 #[.int .i64 w, .int .i64 h]) (hb : Below W0.heap.size W0 w'), wpAnyH Tryd.prog .any ops5 Q (fun w' => Box w' gb 32 #[.int .i64 w, .int .i64 h]) 4 #[true, true, true, true, true, true, true, true, false, false, true, false, false] ((b0.put (some 25) (.agg #[.bool (fA 0), .bool (fA 1), .bool (fA 2), .bool (fA 3), .bool (fA 4)])).put (some 8) (.pointer (some ⟨g8, 0, none⟩))) w' := by
    intro g7 g8 w' y8 l8 bg hb
    refine wpAnyH_ready (rs := [8, 9]) (by kernel_rfl) (by simp) ?_
    refine AllReadyH.cons (o := { dst := some 30, op := Op.call { callee := Callee.value (Operand.func 32), args := #[Operand.tmp 26, Operand.tmp 28, Operand.tmp 29], argTypes := #[32, 3, 3] }, type := 60, pos := "c5_domino.go:100", after := #[{ on := 4, ground := Ground.data }, { on := 6, ground := Ground.data }, { on := 7, ground := Ground.data }, { on := 3, ground := Ground.chain }], guard := none }) rfl (fun K hK => step_call3 rfl (.tmp 26) (.tmp 28) (.tmp 29) _ rfl ((act_ne _ (by decide) _).trans ((act_ne _ (by decide) _).trans b26)) ((act_ne _ (by decide) _).trans ((act_ne _ (by decide) _).trans b28)) ((act_ne _ (by decide) _).trans ((act_ne _ (by decide) _).trans b29)) (HC2 _) (fun w5 b5 => hK.out _ _ (bg.then b5) (fun _ => any_eq (by rfl) (by rw [act_swap _ 8 30 _ _ (by decide)]) (st201 g7 g8 w5 (y8.then b5) l8 (bg.then b5) (below_then hb hb.size b5))))) ?_
    refine AllReadyH.cons (o := { dst := some 7, op := Op.alloc 60, type := 0, pos := "c5_domino.go:100", after := #[], guard := none }) rfl (fun K hK => step_alloc5 rfl rfl (fun w5 g hg y b5 => hK.out _ _ (bg.then b5) (fun _ => any_eq (by rfl) (by rw [act_swap _ 8 7 _ _ (by decide)]) (st111 g g8 w5 y (hg ▸ hb.size) (y8.then b5) l8 (fun e => by have := y8.in_; omega) (bg.then b5) (below_then hb hb.size b5))))) ?_
    exact AllReadyH.nil
  have st100 : ∀ (g7 g8 : Nat) (w' : World) (bg : Box w' gb 32 #[.int .i64 w, .int .i64 h]) (hb : Below W0.heap.size W0 w'), wpAnyH Tryd.prog .any ops5 Q (fun w' => Box w' gb 32 #[.int .i64 w, .int .i64 h]) 5 #[true, true, true, true, true, true, true, true, false, false, false, false, false] (b0.put (some 25) (.agg #[.bool (fA 0), .bool (fA 1), .bool (fA 2), .bool (fA 3), .bool (fA 4)])) w' := by
    intro g7 g8 w' bg hb
    refine wpAnyH_ready (rs := [8, 9, 10]) (by kernel_rfl) (by simp) ?_
    refine AllReadyH.cons (o := { dst := some 30, op := Op.call { callee := Callee.value (Operand.func 32), args := #[Operand.tmp 26, Operand.tmp 28, Operand.tmp 29], argTypes := #[32, 3, 3] }, type := 60, pos := "c5_domino.go:100", after := #[{ on := 4, ground := Ground.data }, { on := 6, ground := Ground.data }, { on := 7, ground := Ground.data }, { on := 3, ground := Ground.chain }], guard := none }) rfl (fun K hK => step_call3 rfl (.tmp 26) (.tmp 28) (.tmp 29) _ rfl ((act_ne _ (by decide) _).trans b26) ((act_ne _ (by decide) _).trans b28) ((act_ne _ (by decide) _).trans b29) (HC2 _) (fun w5 b5 => hK.out _ _ (bg.then b5) (fun _ => any_eq (by rfl) (rfl) (st200 g7 g8 w5 (bg.then b5) (below_then hb hb.size b5))))) ?_
    refine AllReadyH.cons (o := { dst := some 7, op := Op.alloc 60, type := 0, pos := "c5_domino.go:100", after := #[], guard := none }) rfl (fun K hK => step_alloc5 rfl rfl (fun w5 g hg y b5 => hK.out _ _ (bg.then b5) (fun _ => any_eq (by rfl) (rfl) (st110 g g8 w5 y (hg ▸ hb.size) (bg.then b5) (below_then hb hb.size b5))))) ?_
    refine AllReadyH.cons (o := { dst := some 8, op := Op.alloc 60, type := 0, pos := "c5_domino.go:100", after := #[], guard := none }) rfl (fun K hK => step_alloc5 rfl rfl (fun w5 g hg y b5 => hK.out _ _ (bg.then b5) (fun _ => any_eq (by rfl) (rfl) (st101 g7 g w5 y (hg ▸ hb.size) (bg.then b5) (below_then hb hb.size b5))))) ?_
    exact AllReadyH.nil
  have st011 : ∀ (g7 g8 : Nat) (w' : World) (y7 : Box w' g7 60 (bitsF fun _ => false)) (l7 : W0.heap.size ≤ g7) (y8 : Box w' g8 60 (bitsF fun _ => false)) (l8 : W0.heap.size ≤ g8) (ne : g7 ≠ g8) (bg : Box w' gb 32 #[.int .i64 w, .int .i64 h]) (hb : Below W0.heap.size W0 w'), wpAnyH Tryd.prog .any ops5 Q (fun w' => Box w' gb 32 #[.int .i64 w, .int .i64 h]) 4 #[true, true, true, false, true, true, true, true, false, true, true, false, false] ((b0.put (some 7) (.pointer (some ⟨g7, 0, none⟩))).put (some 8) (.pointer (some ⟨g8, 0, none⟩))) w' := by
    intro g7 g8 w' y7 l7 y8 l8 ne bg hb
    refine wpAnyH_ready (rs := [3]) (by kernel_rfl) (by simp) ?_
    refine AllReadyH.cons (o := { dst := some 25, op := Op.call { callee := Callee.value (Operand.func 32), args := #[Operand.tmp 22, Operand.tmp 23, Operand.tmp 24], argTypes := #[32, 3, 3] }, type := 60, pos := "c5_domino.go:100", after := #[{ on := 0, ground := Ground.data }, { on := 1, ground := Ground.data }, { on := 2, ground := Ground.data }], guard := none }) rfl (fun K hK => step_call3 rfl (.tmp 22) (.tmp 23) (.tmp 24) _ rfl ((act_ne _ (by decide) _).trans ((act_ne _ (by decide) _).trans b22)) ((act_ne _ (by decide) _).trans ((act_ne _ (by decide) _).trans b23)) ((act_ne _ (by decide) _).trans ((act_ne _ (by decide) _).trans b24)) (HC1 _) (fun w5 b5 => hK.out _ _ (bg.then b5) (fun _ => any_eq (by rfl) (by rw [act_swap _ 8 25 _ _ (by decide), act_swap _ 7 25 _ _ (by decide)]) (st111 g7 g8 w5 (y7.then b5) l7 (y8.then b5) l8 ne (bg.then b5) (below_then hb hb.size b5))))) ?_
    exact AllReadyH.nil
  have st010 : ∀ (g7 g8 : Nat) (w' : World) (y7 : Box w' g7 60 (bitsF fun _ => false)) (l7 : W0.heap.size ≤ g7) (bg : Box w' gb 32 #[.int .i64 w, .int .i64 h]) (hb : Below W0.heap.size W0 w'), wpAnyH Tryd.prog .any ops5 Q (fun w' => Box w' gb 32 #[.int .i64 w, .int .i64 h]) 5 #[true, true, true, false, true, true, true, true, false, true, false, false, false] (b0.put (some 7) (.pointer (some ⟨g7, 0, none⟩))) w' := by
    intro g7 g8 w' y7 l7 bg hb
    refine wpAnyH_ready (rs := [3, 10]) (by kernel_rfl) (by simp) ?_
    refine AllReadyH.cons (o := { dst := some 25, op := Op.call { callee := Callee.value (Operand.func 32), args := #[Operand.tmp 22, Operand.tmp 23, Operand.tmp 24], argTypes := #[32, 3, 3] }, type := 60, pos := "c5_domino.go:100", after := #[{ on := 0, ground := Ground.data }, { on := 1, ground := Ground.data }, { on := 2, ground := Ground.data }], guard := none }) rfl (fun K hK => step_call3 rfl (.tmp 22) (.tmp 23) (.tmp 24) _ rfl ((act_ne _ (by decide) _).trans b22) ((act_ne _ (by decide) _).trans b23) ((act_ne _ (by decide) _).trans b24) (HC1 _) (fun w5 b5 => hK.out _ _ (bg.then b5) (fun _ => any_eq (by rfl) (by rw [act_swap _ 7 25 _ _ (by decide)]) (st110 g7 g8 w5 (y7.then b5) l7 (bg.then b5) (below_then hb hb.size b5))))) ?_
    refine AllReadyH.cons (o := { dst := some 8, op := Op.alloc 60, type := 0, pos := "c5_domino.go:100", after := #[], guard := none }) rfl (fun K hK => step_alloc5 rfl rfl (fun w5 g hg y b5 => hK.out _ _ (bg.then b5) (fun _ => any_eq (by rfl) (rfl) (st011 g7 g w5 (y7.then b5) l7 y (hg ▸ hb.size) (fun e => by have := y7.in_; omega) (bg.then b5) (below_then hb hb.size b5))))) ?_
    exact AllReadyH.nil
  have st001 : ∀ (g7 g8 : Nat) (w' : World) (y8 : Box w' g8 60 (bitsF fun _ => false)) (l8 : W0.heap.size ≤ g8) (bg : Box w' gb 32 #[.int .i64 w, .int .i64 h]) (hb : Below W0.heap.size W0 w'), wpAnyH Tryd.prog .any ops5 Q (fun w' => Box w' gb 32 #[.int .i64 w, .int .i64 h]) 5 #[true, true, true, false, true, true, true, true, false, false, true, false, false] (b0.put (some 8) (.pointer (some ⟨g8, 0, none⟩))) w' := by
    intro g7 g8 w' y8 l8 bg hb
    refine wpAnyH_ready (rs := [3, 9]) (by kernel_rfl) (by simp) ?_
    refine AllReadyH.cons (o := { dst := some 25, op := Op.call { callee := Callee.value (Operand.func 32), args := #[Operand.tmp 22, Operand.tmp 23, Operand.tmp 24], argTypes := #[32, 3, 3] }, type := 60, pos := "c5_domino.go:100", after := #[{ on := 0, ground := Ground.data }, { on := 1, ground := Ground.data }, { on := 2, ground := Ground.data }], guard := none }) rfl (fun K hK => step_call3 rfl (.tmp 22) (.tmp 23) (.tmp 24) _ rfl ((act_ne _ (by decide) _).trans b22) ((act_ne _ (by decide) _).trans b23) ((act_ne _ (by decide) _).trans b24) (HC1 _) (fun w5 b5 => hK.out _ _ (bg.then b5) (fun _ => any_eq (by rfl) (by rw [act_swap _ 8 25 _ _ (by decide)]) (st101 g7 g8 w5 (y8.then b5) l8 (bg.then b5) (below_then hb hb.size b5))))) ?_
    refine AllReadyH.cons (o := { dst := some 7, op := Op.alloc 60, type := 0, pos := "c5_domino.go:100", after := #[], guard := none }) rfl (fun K hK => step_alloc5 rfl rfl (fun w5 g hg y b5 => hK.out _ _ (bg.then b5) (fun _ => any_eq (by rfl) (by rw [act_swap _ 8 7 _ _ (by decide)]) (st011 g g8 w5 y (hg ▸ hb.size) (y8.then b5) l8 (fun e => by have := y8.in_; omega) (bg.then b5) (below_then hb hb.size b5))))) ?_
    exact AllReadyH.nil
  have st000 : ∀ (g7 g8 : Nat) (w' : World) (bg : Box w' gb 32 #[.int .i64 w, .int .i64 h]) (hb : Below W0.heap.size W0 w'), wpAnyH Tryd.prog .any ops5 Q (fun w' => Box w' gb 32 #[.int .i64 w, .int .i64 h]) 6 #[true, true, true, false, true, true, true, true, false, false, false, false, false] b0 w' := by
    intro g7 g8 w' bg hb
    refine wpAnyH_ready (rs := [3, 9, 10]) (by kernel_rfl) (by simp) ?_
    refine AllReadyH.cons (o := { dst := some 25, op := Op.call { callee := Callee.value (Operand.func 32), args := #[Operand.tmp 22, Operand.tmp 23, Operand.tmp 24], argTypes := #[32, 3, 3] }, type := 60, pos := "c5_domino.go:100", after := #[{ on := 0, ground := Ground.data }, { on := 1, ground := Ground.data }, { on := 2, ground := Ground.data }], guard := none }) rfl (fun K hK => step_call3 rfl (.tmp 22) (.tmp 23) (.tmp 24) _ rfl b22 b23 b24 (HC1 _) (fun w5 b5 => hK.out _ _ (bg.then b5) (fun _ => any_eq (by rfl) (rfl) (st100 g7 g8 w5 (bg.then b5) (below_then hb hb.size b5))))) ?_
    refine AllReadyH.cons (o := { dst := some 7, op := Op.alloc 60, type := 0, pos := "c5_domino.go:100", after := #[], guard := none }) rfl (fun K hK => step_alloc5 rfl rfl (fun w5 g hg y b5 => hK.out _ _ (bg.then b5) (fun _ => any_eq (by rfl) (rfl) (st010 g g8 w5 y (hg ▸ hb.size) (bg.then b5) (below_then hb hb.size b5))))) ?_
    refine AllReadyH.cons (o := { dst := some 8, op := Op.alloc 60, type := 0, pos := "c5_domino.go:100", after := #[], guard := none }) rfl (fun K hK => step_alloc5 rfl rfl (fun w5 g hg y b5 => hK.out _ _ (bg.then b5) (fun _ => any_eq (by rfl) (rfl) (st001 g7 g w5 y (hg ▸ hb.size) (bg.then b5) (below_then hb hb.size b5))))) ?_
    exact AllReadyH.nil
  refine wp_region_held_drew (S := fun w' => Box w' gb 32 #[.int .i64 w, .int .i64 h]) (by kernel_rfl) bx (fun hHeld => ?_)
  refine wpAnyH_take (i := 0) (oi := { dst := some 22, op := Op.load 32 (Operand.tmp 2), type := 32, pos := "c5_domino.go:100", after := #[], guard := none }) (v := .agg #[.int .i64 w, .int .i64 h]) rfl (by kernel_rfl) (by kernel_rfl) (by kernel_rfl) (fun c a w h => hQ c a _ _ w h) (Or.inl ⟨by simp [Region.wanted], fun w' hS => ?_⟩) hHeld ?_
  · have hev : (a).eval (.tmp 2) = .pointer (some ⟨gb, 0, none⟩) := e2
    have hld := load_board hS rfl rfl
    simp [execOp, hev, hld, Result.andThen]
  refine wpAnyH_take (i := 1) (oi := { dst := some 23, op := Op.move (Operand.tmp 6), type := 3, pos := "c5_domino.go:100", after := #[], guard := none }) (v := .int .i64 k) rfl (by kernel_rfl) (by kernel_rfl) (by kernel_rfl) (fun c a w h => hQ c a _ _ w h) (Or.inl ⟨by simp [Region.wanted], fun w' hS => ?_⟩) hHeld ?_
  · have hev : ((a.put (some 22) (.agg #[.int .i64 w, .int .i64 h]))).eval (.tmp 6) = .int .i64 k := ((act_ne _ (by decide) _).trans e6)
    simp [execOp, hev]
  refine wpAnyH_take (i := 2) (oi := { dst := some 24, op := Op.move (Operand.tmp 1), type := 3, pos := "c5_domino.go:100", after := #[], guard := none }) (v := .int .i64 set) rfl (by kernel_rfl) (by kernel_rfl) (by kernel_rfl) (fun c a w h => hQ c a _ _ w h) (Or.inl ⟨by simp [Region.wanted], fun w' hS => ?_⟩) hHeld ?_
  · have hev : (((a.put (some 22) (.agg #[.int .i64 w, .int .i64 h])).put (some 23) (.int .i64 k))).eval (.tmp 1) = .int .i64 set := ((act_ne _ (by decide) _).trans ((act_ne _ (by decide) _).trans e1))
    simp [execOp, hev]
  refine wpAnyH_take (i := 4) (oi := { dst := some 26, op := Op.load 32 (Operand.tmp 2), type := 32, pos := "c5_domino.go:100", after := #[], guard := none }) (v := .agg #[.int .i64 w, .int .i64 h]) rfl (by kernel_rfl) (by kernel_rfl) (by kernel_rfl) (fun c a w h => hQ c a _ _ w h) (Or.inl ⟨by simp [Region.wanted], fun w' hS => ?_⟩) hHeld ?_
  · have hev : ((((a.put (some 22) (.agg #[.int .i64 w, .int .i64 h])).put (some 23) (.int .i64 k)).put (some 24) (.int .i64 set))).eval (.tmp 2) = .pointer (some ⟨gb, 0, none⟩) := ((act_ne _ (by decide) _).trans ((act_ne _ (by decide) _).trans ((act_ne _ (by decide) _).trans e2)))
    have hld := load_board hS rfl rfl
    simp [execOp, hev, hld, Result.andThen]
  refine wpAnyH_take (i := 5) (oi := { dst := some 27, op := Op.move (Operand.tmp 6), type := 3, pos := "c5_domino.go:100", after := #[], guard := none }) (v := .int .i64 k) rfl (by kernel_rfl) (by kernel_rfl) (by kernel_rfl) (fun c a w h => hQ c a _ _ w h) (Or.inl ⟨by simp [Region.wanted], fun w' hS => ?_⟩) hHeld ?_
  · have hev : (((((a.put (some 22) (.agg #[.int .i64 w, .int .i64 h])).put (some 23) (.int .i64 k)).put (some 24) (.int .i64 set)).put (some 26) (.agg #[.int .i64 w, .int .i64 h]))).eval (.tmp 6) = .int .i64 k := ((act_ne _ (by decide) _).trans ((act_ne _ (by decide) _).trans ((act_ne _ (by decide) _).trans ((act_ne _ (by decide) _).trans e6))))
    simp [execOp, hev]
  refine wpAnyH_take (i := 6) (oi := { dst := some 28, op := Op.binOp BinOp.add 3 (Operand.tmp 27) (Operand.const (Value.int IntKind.i64 1)) 3, type := 3, pos := "c5_domino.go:100", after := #[{ on := 5, ground := Ground.data }], guard := none }) (v := .int .i64 (k + 1)) rfl (by kernel_rfl) (by kernel_rfl) (by kernel_rfl) (fun c a w h => hQ c a _ _ w h) (Or.inl ⟨by simp [Region.wanted], fun w' hS => ?_⟩) hHeld ?_
  · have hev : ((((((a.put (some 22) (.agg #[.int .i64 w, .int .i64 h])).put (some 23) (.int .i64 k)).put (some 24) (.int .i64 set)).put (some 26) (.agg #[.int .i64 w, .int .i64 h])).put (some 27) (.int .i64 k))).eval (.tmp 27) = .int .i64 k := (act_self (by simp [act_size, hsz]) _)
    have hcv : ((((((a.put (some 22) (.agg #[.int .i64 w, .int .i64 h])).put (some 23) (.int .i64 k)).put (some 24) (.int .i64 set)).put (some 26) (.agg #[.int .i64 w, .int .i64 h])).put (some 27) (.int .i64 k))).eval (.const (.int .i64 1)) = .int .i64 1 := rfl
    have hadd : (binOp BinOp.add 3 (.int .i64 k) (.int .i64 1)).run Tryd.prog w' = .ok (.int .i64 (IntKind.i64.wrap (k + 1))) w' := by kernel_rfl
    rw [ek] at hadd
    have heg : (eqGuard BinOp.add 3 (.tmp 27) (.const (.int .i64 1)) (.int .i64 k) (.int .i64 1)).run Tryd.prog w' = .ok () w' := by kernel_rfl
    simp only [execOp, hev, hcv, heg, hadd, Sem.run_bind, Sem.run_pure, Result.andThen_ok]
  refine wpAnyH_take (i := 7) (oi := { dst := some 29, op := Op.move (Operand.tmp 1), type := 3, pos := "c5_domino.go:100", after := #[], guard := none }) (v := .int .i64 set) rfl (by kernel_rfl) (by kernel_rfl) (by kernel_rfl) (fun c a w h => hQ c a _ _ w h) (Or.inl ⟨by simp [Region.wanted], fun w' hS => ?_⟩) hHeld ?_
  · have hev : (((((((a.put (some 22) (.agg #[.int .i64 w, .int .i64 h])).put (some 23) (.int .i64 k)).put (some 24) (.int .i64 set)).put (some 26) (.agg #[.int .i64 w, .int .i64 h])).put (some 27) (.int .i64 k)).put (some 28) (.int .i64 (k + 1)))).eval (.tmp 1) = .int .i64 set := ((act_ne _ (by decide) _).trans ((act_ne _ (by decide) _).trans ((act_ne _ (by decide) _).trans ((act_ne _ (by decide) _).trans ((act_ne _ (by decide) _).trans ((act_ne _ (by decide) _).trans e1))))))
    simp [execOp, hev]
  refine any_eq (by rfl) hb0 (st000 0 0 _ (show Box W0.drew gb 32 #[.int .i64 w, .int .i64 h] from bx) (Below.refl _ _).drew)
end Go.Proofs.YtnikgnicjbcbmabDoor

/-
  coversByRows, its thirteenth region: 'next[way] += count' at an array key: the look-up before or behind the entry.
-/
namespace Go.Proofs.YtnikgnicjbcbmabDoor
open Go.RowKit Go.Maps Go.ChangeShapes Go.WideShapes Go.ChangeMaps
set_option linter.unusedVariables false

/-- The entry is the update with what stands there: so the map is owned behind it too, and reads the same. -/
theorem entry_same {P : Program} {w : World} {t k e : TypeId} {q : IntKind} (KL : WideMaps.KeyLaw P k) (ht : P.underlying t = some (.map k e)) (he : P.underlying e = some (.int q)) (hz : ∀ u : World, (zeroValue e).run P u = .ok (.int q 0) u) {b n : Nat} {D : DataW Unit}
    (hown : w.ownsMap P k (plainElem P e) b n D) (hn : n < maxLen) {key : Value} {kl : Lit} (hkey : keyOf P k key = some kl) {y : Int} (hy : D.atKey kl (.lit (.int q 0)) = .lit (.int q y)) :
    ∃ (st : Nat) (w1 : World), (Instr.mapEntry t (.map (some b)) key).run P w = .ok (.tuple #[.int q y, goInt st]) w1 ∧ w1.ownsMap P k (plainElem P e) b (n + 1) (D.put kl (.lit (.int q y))) ∧ w.grownBy w1 (some b) ∧ Stores P k e t b n D kl w1 st := by
  obtain ⟨c, hlook, hat, hwc⟩ := hown.lookup_int (Keyed.of_law KL) ht he (hz _) hkey
  rw [hy] at hat
  injection hat with hat
  injection hat with _ hat
  subst hat
  have hpl : plainElem (H := Unit) P e (.int q y) = some (.lit (.int q y), []) := plainElem_int he hwc
  have hown0 := hown
  obtain ⟨es, clock, hb, F, hs, hD⟩ := hown
  have hsame : ∃ (st : Nat) (w1 : World), (Instr.mapEntry t (.map (some b)) key).run P w = .ok (.tuple #[.int q y, goInt st]) w1 ∧ (Instr.mapUpdate t (.map (some b)) key (.int q y)).run P w = .ok () w1 := by
    rcases KL.find w hkey es.toList F.keys with ⟨h1, h2⟩ | ⟨j, e0, h1, h2, h3⟩
    · have hl : (.int q 0 : Value) = .int q y := by
        have := hlook
        simp [Instr.lookup, run_underlying ht, MapKept.run_getObj_map hb, KL.check w _ hkey, h1, hz, Result.andThen] at this
        first | exact congrArg _ this | simp [this]
      refine ⟨clock, setBlock w b (.map (es.push ⟨key, .int q y, clock⟩) (clock + 1)), ?_, ?_⟩
      · simp [Instr.mapEntry, run_underlying ht, MapKept.run_getObj_map hb, KL.check w _ hkey, h1, hz, MapKept.run_setObj_map _ hb, Result.andThen, hl, setBlock]
      · simp [Instr.mapUpdate, run_underlying ht, MapKept.run_getObj_map hb, KL.check w _ hkey, h1, MapKept.run_setObj_map _ hb, Result.andThen, setBlock]
    · have hj : es[j]? = some e0 := by simpa using h2
      have hl : e0.val = .int q y := by
        have := hlook
        simp [Instr.lookup, run_underlying ht, MapKept.run_getObj_map hb, KL.check w _ hkey, h1, Result.andThen] at this
        exact this
      have hm : es.modify j (fun e' => { e' with key := key }) = es.modify j (fun e' => { e' with key := key, val := .int q y }) := by
        apply Array.ext'
        rw [Array.toList_modify, Array.toList_modify, modify_eq_set _ _ _ _ h2, modify_eq_set _ _ _ _ h2, ← hl]
      refine ⟨e0.born, setBlock w b (.map (es.modify j (fun e' => { e' with key := key, val := .int q y })) clock), ?_, ?_⟩
      · simp [Instr.mapEntry, run_underlying ht, MapKept.run_getObj_map hb, KL.check w _ hkey, h1, hj, h3, KL.stays w hkey, MapKept.run_setObj_map _ hb, Result.andThen, hl, hm, setBlock]
      · simp [Instr.mapUpdate, run_underlying ht, MapKept.run_getObj_map hb, KL.check w _ hkey, h1, hj, h3, KL.stays w hkey, MapKept.run_setObj_map _ hb, Result.andThen, setBlock]
  obtain ⟨st, w1, r1, r2⟩ := hsame
  obtain ⟨w', hu, o1, o2⟩ := hown0.update (Keyed.of_law KL) ht hn hkey hpl
  have hw' : w' = w1 := by
    have := hu.symm.trans r2
    injection this
  subst hw'
  obtain ⟨v0, st', es1, clock1, hrun, _, hst⟩ := WideElems.entry_then_store KL ht hz hb F hkey
  have hrr := hrun.symm.trans r1
  injection hrr with hv hw1
  have hv0 : v0 = .int q y := by
    simp at hv
    exact hv.1
  refine ⟨st', w', by rw [← hv0, ← hw1]; exact hrun, o1, o2, fun w2 val d ps hw2 hval => ?_⟩
  have hw2' : w2.heap[b]? = some (.map es1 clock1) := by
    rw [hw2, ← hw1]
    exact heap_setBlock_same hb _
  obtain ⟨es', clock', hrun2, hrun3⟩ := hst w2 val hw2'
  obtain ⟨w4, hrun4, hown4, _⟩ := hown0.update (Keyed.of_law KL) ht hn hkey hval
  have he' : w4 = setBlock w b (.map es' clock') := by
    have := hrun4.symm.trans hrun3
    injection this
  subst he'
  obtain ⟨es5, clock5, hb5, F5, hs5, hD5⟩ := hown4
  have := hb5.symm.trans (heap_setBlock_same hb _)
  injection this with this
  injection this with e1 e2
  subst e1 e2
  exact ⟨_, hrun2, ⟨es5, clock5, heap_setBlock_same hw2' _, F5, hs5, hD5⟩, ⟨rfl, rfl, rfl, by simp [setBlock], fun i _ hi => heap_setBlock_other hw2' _ (fun e => hi (by rw [e]))⟩⟩

def ops13 : Array Oper :=
  #[{ dst := some 49, op := Op.move (Operand.tmp 9), type := 61, pos := "c5_domino.go:104", after := #[], guard := none },
  { dst := some 50, op := Op.load 60 (Operand.tmp 13), type := 60, pos := "c5_domino.go:104", after := #[], guard := none },
  { dst := some 51, op := Op.lookup 61 (Operand.tmp 49) (Operand.tmp 50) false, type := 3, pos := "c5_domino.go:104", after := #[{ on := 0, ground := Ground.data }, { on := 1, ground := Ground.data }], guard := none },
  { dst := some 52, op := Op.move (Operand.tmp 11), type := 3, pos := "c5_domino.go:104", after := #[], guard := none },
  { dst := some 53, op := Op.binOp BinOp.add 3 (Operand.tmp 51) (Operand.tmp 52) 3, type := 3, pos := "c5_domino.go:104", after := #[{ on := 2, ground := Ground.data }, { on := 3, ground := Ground.data }], guard := none },
  { dst := some 54, op := Op.mapEntry 61 (Operand.tmp 49) (Operand.tmp 50), type := 0, pos := "c5_domino.go:104", after := #[{ on := 0, ground := Ground.data }, { on := 1, ground := Ground.data }, { on := 0, ground := Ground.phase }, { on := 1, ground := Ground.phase }, { on := 2, ground := Ground.textOnly Departure.mapOpAssignEntry }, { on := 3, ground := Ground.phase }, { on := 4, ground := Ground.textOnly Departure.mapOpAssignEntry }], guard := none },
  { dst := some 55, op := Op.extract (Operand.tmp 54) 1, type := 3, pos := "c5_domino.go:104", after := #[{ on := 5, ground := Ground.data }], guard := none },
  { dst := none, op := Op.entryStore 61 (Operand.tmp 49) (Operand.tmp 55) (Operand.tmp 53), type := 0, pos := "c5_domino.go:104", after := #[{ on := 0, ground := Ground.data }, { on := 6, ground := Ground.data }, { on := 4, ground := Ground.data }, { on := 5, ground := Ground.chain }, { on := 0, ground := Ground.phase }, { on := 1, ground := Ground.phase }, { on := 2, ground := Ground.phase }, { on := 3, ground := Ground.phase }, { on := 4, ground := Ground.phase }, { on := 5, ground := Ground.phase }, { on := 6, ground := Ground.phase }], guard := none }]

/-- STEPS. -/
theorem step_add {ops : Array Oper} {o : Oper} {a : Act} {w : World} {K : Act → World → Prop} {Q : Exit → Act → World → Prop} {E : Prop} (hgd : o.guard = none) (x z : Operand) (hop : o.op = Op.binOp BinOp.add 3 x z 3) {i j : Int}
    (hx : a.eval x = .int .i64 i) (hz : a.eval z = .int .i64 j) (hs : IntKind.i64.wrap (i + j) = i + j) (h : K (a.put o.dst (.int .i64 (i + j))) w) : if Region.wanted o (yielded ops a.tmps) = true then Oper.wp Tryd.prog o a w K Q else E := by
  have hw : Region.wanted o (yielded ops a.tmps) = true := by simp [Region.wanted, hgd]
  rw [if_pos hw]
  have hadd : (binOp BinOp.add 3 (.int .i64 i) (.int .i64 j)).run Tryd.prog w = .ok (.int .i64 (IntKind.i64.wrap (i + j))) w := by kernel_rfl
  rw [hs] at hadd
  have heg : (eqGuard BinOp.add 3 x z (.int .i64 i) (.int .i64 j)).run Tryd.prog w = .ok () w := by kernel_rfl
  unfold Oper.wp
  simp [execOp, hop, hx, hz, hadd, heg, Result.andThen]
  exact h
theorem step_extract {ops : Array Oper} {o : Oper} {a : Act} {w : World} {K : Act → World → Prop} {Q : Exit → Act → World → Prop} {E : Prop} (hgd : o.guard = none) (x : Operand) (hop : o.op = Op.extract x 1) {u v : Value}
    (hx : a.eval x = .tuple #[u, v]) (h : K (a.put o.dst v) w) : if Region.wanted o (yielded ops a.tmps) = true then Oper.wp Tryd.prog o a w K Q else E := by
  have hw : Region.wanted o (yielded ops a.tmps) = true := by simp [Region.wanted, hgd]
  rw [if_pos hw]
  unfold Oper.wp
  simp [execOp, hop, hx, Result.andThen]
  exact h
theorem step_entry2 {ops : Array Oper} {o : Oper} {a : Act} {w : World} {K : Act → World → Prop} {Q : Exit → Act → World → Prop} {E : Prop} (hgd : o.guard = none) (m x : Operand) (hop : o.op = Op.mapEntry 61 m x)
    {b n : Nat} {D : DataW Unit} (hm : a.eval m = .map (some b)) (hown : OwnsA w b n D) (hn : n < maxLen) {key : Value} {kl : Lit} (hx : a.eval x = key) (hkey : keyOf Tryd.prog 60 key = some kl) {y : Int} (hy : D.atKey kl (.lit (.int .i64 0)) = .lit (.int .i64 y))
    (h : ∀ (st : Nat) (w1 : World), OwnsA w1 b (n + 1) (D.put kl (.lit (.int .i64 y))) → w.grownBy w1 (some b) → Stores Tryd.prog 60 3 61 b n D kl w1 st → K (a.put o.dst (.tuple #[.int .i64 y, goInt st])) w1) :
    if Region.wanted o (yielded ops a.tmps) = true then Oper.wp Tryd.prog o a w K Q else E := by
  have hw : Region.wanted o (yielded ops a.tmps) = true := by simp [Region.wanted, hgd]
  rw [if_pos hw]
  obtain ⟨st, w1, hrun, r1, r2, r3⟩ := entry_same klaw Tryd.underlying61 Tryd.underlying3 mzeroA hown hn hkey hy
  unfold Oper.wp
  simp [execOp, hop, hm, hx, hrun, Result.andThen]
  exact h st w1 r1 r2 r3
theorem run_load5 {w' : World} {g : Nat} {f : Nat → Bool} (h : Box w' g 60 (bitsF f)) : (Instr.loadAt 60 (.pointer (some ⟨g, 0, none⟩))).run Tryd.prog w' = .ok (.agg #[.bool (f 0), .bool (f 1), .bool (f 2), .bool (f 3), .bool (f 4)]) w' := by
  obtain ⟨c0, c1, c2, c3, c4⟩ := box5 h
  simp [Instr.loadAt, go_sem, c0, c1, c2, c3, c4]

set_option linter.unusedSimpArgs false
set_option maxHeartbeats 4000000 in
set_option maxRecDepth 100000 in
theorem region13_w {Q : Exit → Act → World → Prop} (hQ : ∀ c a d v w, Q (.panic c) (a.put d v) w → Q (.panic c) a w) {a : Act} {W0 : World} {gw nb n c y : Nat} {D : DataW Unit} {kl : Lit} {f : Nat → Bool}
    (hsz : a.tmps.size = 62) (e9 : a.eval (.tmp 9) = .map (some nb)) (e11 : a.eval (.tmp 11) = .int .i64 (c : Int)) (e13 : a.eval (.tmp 13) = .pointer (some ⟨gw, 0, none⟩)) (bw : Box W0 gw 60 (bitsF f)) (hne : gw ≠ nb)
    (hkey : keyOf Tryd.prog 60 (.agg #[.bool (f 0), .bool (f 1), .bool (f 2), .bool (f 3), .bool (f 4)]) = some kl) (hown : OwnsA W0 nb n D) (hD : IsMap D) (hn : n < maxLen) (hy : D.atKey kl (.lit (.int .i64 0)) = .lit (.int .i64 (y : Int))) (hsum : IntKind.i64.wrap ((y : Int) + (c : Int)) = (y : Int) + (c : Int)) (hsm : y + c ≤ 65536)
    (H : ∀ (st : Nat) (w' : World), OwnsA w' nb (n + 1) (D.put kl (.lit (.int .i64 ((y : Int) + (c : Int))))) → W0.grownBy w' (some nb) →
      Q .normal (((((((a.put (some 49) (.map (some nb))).put (some 50) (.agg #[.bool (f 0), .bool (f 1), .bool (f 2), .bool (f 3), .bool (f 4)])).put (some 52) (.int .i64 (c : Int))).put (some 51) (.int .i64 (y : Int))).put (some 53) (.int .i64 ((y : Int) + (c : Int)))).put (some 54) (.tuple #[.int .i64 (y : Int), goInt st])).put (some 55) (goInt st)) w') :
    (Code.region 13 ops13 true).wp Tryd.prog Q a W0 := by
  obtain ⟨b0, hb0⟩ : ∃ b0, (((a.put (some 49) (.map (some nb))).put (some 50) (.agg #[.bool (f 0), .bool (f 1), .bool (f 2), .bool (f 3), .bool (f 4)])).put (some 52) (.int .i64 (c : Int))) = b0 := ⟨_, rfl⟩
  have hbs : b0.tmps.size = 62 := by rw [← hb0]; simp [act_size, hsz]
  have b49 : b0.eval (.tmp 49) = .map (some nb) := by rw [← hb0]; simp [act_ne, act_self, act_size, hsz]
  have b50 : b0.eval (.tmp 50) = (.agg #[.bool (f 0), .bool (f 1), .bool (f 2), .bool (f 3), .bool (f 4)]) := by rw [← hb0]; simp [act_ne, act_self, act_size, hsz]
  have b52 : b0.eval (.tmp 52) = .int .i64 (c : Int) := by rw [← hb0]; simp [act_ne, act_self, act_size, hsz]
  have hy2 : (D.put kl (.lit (.int .i64 (y : Int)))).atKey kl (.lit (.int .i64 0)) = .lit (.int .i64 (y : Int)) := atKey_put_same hD (mlawA.key hkey) _ _
  have hsumv : plainElem (H := Unit) Tryd.prog 3 (.int .i64 ((y : Int) + (c : Int))) = some (.lit (.int .i64 ((y : Int) + (c : Int))), []) := plainElem_int Tryd.underlying3 (by
    have hmin : IntKind.i64.min = -9223372036854775808 := by decide
    simp [Lit.wf]
    rw [hmin]
    omega)
  rw [hb0] at H
  have s22 : ∀ (st : Nat) (w' : World) (own : OwnsA w' nb (n + 1) (D.put kl (.lit (.int .i64 (y : Int))))) (hS : Stores Tryd.prog 60 3 61 nb n D kl w' st) (bx : Box w' gw 60 (bitsF f)) (hg : W0.grownBy w' (some nb)), wpAnyH Tryd.prog .any ops13 Q (fun w' => Box w' gw 60 (bitsF f)) 1 #[true, true, true, true, true, true, true, false] ((((b0.put (some 51) (.int .i64 (y : Int))).put (some 53) (.int .i64 ((y : Int) + (c : Int)))).put (some 54) (.tuple #[.int .i64 (y : Int), goInt st])).put (some 55) (goInt st)) w' := by
    intro st w' own hS bx hg
    refine wpAnyH_ready (rs := [7]) (by kernel_rfl) (by simp) ?_
    refine AllReadyH.cons (o := { dst := none, op := Op.entryStore 61 (Operand.tmp 49) (Operand.tmp 55) (Operand.tmp 53), type := 0, pos := "c5_domino.go:104", after := #[{ on := 0, ground := Ground.data }, { on := 6, ground := Ground.data }, { on := 4, ground := Ground.data }, { on := 5, ground := Ground.chain }, { on := 0, ground := Ground.phase }, { on := 1, ground := Ground.phase }, { on := 2, ground := Ground.phase }, { on := 3, ground := Ground.phase }, { on := 4, ground := Ground.phase }, { on := 5, ground := Ground.phase }, { on := 6, ground := Ground.phase }], guard := none }) rfl (fun K hK => step_estore rfl (.tmp 49) (.tmp 55) (.tmp 53) 61 rfl 60 3 nb n st D kl w' hS rfl ((act_ne _ (by decide) _).trans ((act_ne _ (by decide) _).trans ((act_ne _ (by decide) _).trans ((act_ne _ (by decide) _).trans b49)))) (act_self (by simp [act_size, hbs]) _) _ ((act_ne _ (by decide) _).trans ((act_ne _ (by decide) _).trans (act_self (by simp [act_size, hbs]) _))) _ _ hsumv (fun w3 own3 hg3 => hK.out _ _ (bx.grownN hg3 hne) (fun _ => ?_))) AllReadyH.nil
    refine wpAnyH_done (by kernel_rfl) ?_ _
    exact H st w3 own3 (grown_then hg hg3)
  have s21 : ∀ (st : Nat) (w' : World) (own : OwnsA w' nb (n + 1) (D.put kl (.lit (.int .i64 (y : Int))))) (hS : Stores Tryd.prog 60 3 61 nb n D kl w' st) (bx : Box w' gw 60 (bitsF f)) (hg : W0.grownBy w' (some nb)), wpAnyH Tryd.prog .any ops13 Q (fun w' => Box w' gw 60 (bitsF f)) 2 #[true, true, true, true, true, true, false, false] (((b0.put (some 51) (.int .i64 (y : Int))).put (some 53) (.int .i64 ((y : Int) + (c : Int)))).put (some 54) (.tuple #[.int .i64 (y : Int), goInt st])) w' := by
    intro st w' own hS bx hg
    refine wpAnyH_ready (rs := [6]) (by kernel_rfl) (by simp) ?_
    refine AllReadyH.cons (o := { dst := some 55, op := Op.extract (Operand.tmp 54) 1, type := 3, pos := "c5_domino.go:104", after := #[{ on := 5, ground := Ground.data }], guard := none }) rfl (fun K hK => step_extract rfl (.tmp 54) rfl (act_self (by simp [act_size, hbs]) _) (hK.out _ _ bx (fun _ => any_eq (by rfl) (rfl) (s22 st w' own hS bx hg)))) ?_
    exact AllReadyH.nil
  have s20 : ∀ (w' : World) (own : OwnsA w' nb n D) (bx : Box w' gw 60 (bitsF f)) (hg : W0.grownBy w' (some nb)), wpAnyH Tryd.prog .any ops13 Q (fun w' => Box w' gw 60 (bitsF f)) 3 #[true, true, true, true, true, false, false, false] ((b0.put (some 51) (.int .i64 (y : Int))).put (some 53) (.int .i64 ((y : Int) + (c : Int)))) w' := by
    intro w' own bx hg
    refine wpAnyH_ready (rs := [5]) (by kernel_rfl) (by simp) ?_
    refine AllReadyH.cons (o := { dst := some 54, op := Op.mapEntry 61 (Operand.tmp 49) (Operand.tmp 50), type := 0, pos := "c5_domino.go:104", after := #[{ on := 0, ground := Ground.data }, { on := 1, ground := Ground.data }, { on := 0, ground := Ground.phase }, { on := 1, ground := Ground.phase }, { on := 2, ground := Ground.textOnly Departure.mapOpAssignEntry }, { on := 3, ground := Ground.phase }, { on := 4, ground := Ground.textOnly Departure.mapOpAssignEntry }], guard := none }) rfl (fun K hK => step_entry2 rfl (.tmp 49) (.tmp 50) rfl ((act_ne _ (by decide) _).trans ((act_ne _ (by decide) _).trans b49)) own hn ((act_ne _ (by decide) _).trans ((act_ne _ (by decide) _).trans b50)) hkey hy (fun st w1 own1 hg1 hS1 => hK.out _ _ (bx.grownN hg1 hne) (fun _ => any_eq (by rfl) (rfl) (s21 st w1 own1 hS1 (bx.grownN hg1 hne) (grown_then hg hg1))))) ?_
    exact AllReadyH.nil
  have s12 : ∀ (st : Nat) (w' : World) (own : OwnsA w' nb (n + 1) (D.put kl (.lit (.int .i64 (y : Int))))) (hS : Stores Tryd.prog 60 3 61 nb n D kl w' st) (bx : Box w' gw 60 (bitsF f)) (hg : W0.grownBy w' (some nb)), wpAnyH Tryd.prog .any ops13 Q (fun w' => Box w' gw 60 (bitsF f)) 2 #[true, true, true, true, false, true, true, false] (((b0.put (some 51) (.int .i64 (y : Int))).put (some 54) (.tuple #[.int .i64 (y : Int), goInt st])).put (some 55) (goInt st)) w' := by
    intro st w' own hS bx hg
    refine wpAnyH_ready (rs := [4]) (by kernel_rfl) (by simp) ?_
    refine AllReadyH.cons (o := { dst := some 53, op := Op.binOp BinOp.add 3 (Operand.tmp 51) (Operand.tmp 52) 3, type := 3, pos := "c5_domino.go:104", after := #[{ on := 2, ground := Ground.data }, { on := 3, ground := Ground.data }], guard := none }) rfl (fun K hK => step_add rfl (.tmp 51) (.tmp 52) rfl ((act_ne _ (by decide) _).trans ((act_ne _ (by decide) _).trans (act_self (by simp [act_size, hbs]) _))) ((act_ne _ (by decide) _).trans ((act_ne _ (by decide) _).trans ((act_ne _ (by decide) _).trans b52))) hsum (hK.out _ _ bx (fun _ => any_eq (by rfl) (by rw [act_swap _ 55 53 _ _ (by decide), act_swap _ 54 53 _ _ (by decide)]) (s22 st w' own hS bx hg)))) ?_
    exact AllReadyH.nil
  have s11 : ∀ (st : Nat) (w' : World) (own : OwnsA w' nb (n + 1) (D.put kl (.lit (.int .i64 (y : Int))))) (hS : Stores Tryd.prog 60 3 61 nb n D kl w' st) (bx : Box w' gw 60 (bitsF f)) (hg : W0.grownBy w' (some nb)), wpAnyH Tryd.prog .any ops13 Q (fun w' => Box w' gw 60 (bitsF f)) 3 #[true, true, true, true, false, true, false, false] ((b0.put (some 51) (.int .i64 (y : Int))).put (some 54) (.tuple #[.int .i64 (y : Int), goInt st])) w' := by
    intro st w' own hS bx hg
    refine wpAnyH_ready (rs := [4, 6]) (by kernel_rfl) (by simp) ?_
    refine AllReadyH.cons (o := { dst := some 53, op := Op.binOp BinOp.add 3 (Operand.tmp 51) (Operand.tmp 52) 3, type := 3, pos := "c5_domino.go:104", after := #[{ on := 2, ground := Ground.data }, { on := 3, ground := Ground.data }], guard := none }) rfl (fun K hK => step_add rfl (.tmp 51) (.tmp 52) rfl ((act_ne _ (by decide) _).trans (act_self (by simp [act_size, hbs]) _)) ((act_ne _ (by decide) _).trans ((act_ne _ (by decide) _).trans b52)) hsum (hK.out _ _ bx (fun _ => any_eq (by rfl) (by rw [act_swap _ 54 53 _ _ (by decide)]) (s21 st w' own hS bx hg)))) ?_
    refine AllReadyH.cons (o := { dst := some 55, op := Op.extract (Operand.tmp 54) 1, type := 3, pos := "c5_domino.go:104", after := #[{ on := 5, ground := Ground.data }], guard := none }) rfl (fun K hK => step_extract rfl (.tmp 54) rfl (act_self (by simp [act_size, hbs]) _) (hK.out _ _ bx (fun _ => any_eq (by rfl) (rfl) (s12 st w' own hS bx hg)))) ?_
    exact AllReadyH.nil
  have s10 : ∀ (w' : World) (own : OwnsA w' nb n D) (bx : Box w' gw 60 (bitsF f)) (hg : W0.grownBy w' (some nb)), wpAnyH Tryd.prog .any ops13 Q (fun w' => Box w' gw 60 (bitsF f)) 4 #[true, true, true, true, false, false, false, false] (b0.put (some 51) (.int .i64 (y : Int))) w' := by
    intro w' own bx hg
    refine wpAnyH_ready (rs := [4, 5]) (by kernel_rfl) (by simp) ?_
    refine AllReadyH.cons (o := { dst := some 53, op := Op.binOp BinOp.add 3 (Operand.tmp 51) (Operand.tmp 52) 3, type := 3, pos := "c5_domino.go:104", after := #[{ on := 2, ground := Ground.data }, { on := 3, ground := Ground.data }], guard := none }) rfl (fun K hK => step_add rfl (.tmp 51) (.tmp 52) rfl (act_self (by simp [act_size, hbs]) _) ((act_ne _ (by decide) _).trans b52) hsum (hK.out _ _ bx (fun _ => any_eq (by rfl) (rfl) (s20 w' own bx hg)))) ?_
    refine AllReadyH.cons (o := { dst := some 54, op := Op.mapEntry 61 (Operand.tmp 49) (Operand.tmp 50), type := 0, pos := "c5_domino.go:104", after := #[{ on := 0, ground := Ground.data }, { on := 1, ground := Ground.data }, { on := 0, ground := Ground.phase }, { on := 1, ground := Ground.phase }, { on := 2, ground := Ground.textOnly Departure.mapOpAssignEntry }, { on := 3, ground := Ground.phase }, { on := 4, ground := Ground.textOnly Departure.mapOpAssignEntry }], guard := none }) rfl (fun K hK => step_entry2 rfl (.tmp 49) (.tmp 50) rfl ((act_ne _ (by decide) _).trans b49) own hn ((act_ne _ (by decide) _).trans b50) hkey hy (fun st w1 own1 hg1 hS1 => hK.out _ _ (bx.grownN hg1 hne) (fun _ => any_eq (by rfl) (rfl) (s11 st w1 own1 hS1 (bx.grownN hg1 hne) (grown_then hg hg1))))) ?_
    exact AllReadyH.nil
  have s02 : ∀ (st : Nat) (w' : World) (own : OwnsA w' nb (n + 1) (D.put kl (.lit (.int .i64 (y : Int))))) (hS : Stores Tryd.prog 60 3 61 nb n D kl w' st) (bx : Box w' gw 60 (bitsF f)) (hg : W0.grownBy w' (some nb)), wpAnyH Tryd.prog .any ops13 Q (fun w' => Box w' gw 60 (bitsF f)) 3 #[true, true, false, true, false, true, true, false] ((b0.put (some 54) (.tuple #[.int .i64 (y : Int), goInt st])).put (some 55) (goInt st)) w' := by
    intro st w' own hS bx hg
    refine wpAnyH_ready (rs := [2]) (by kernel_rfl) (by simp) ?_
    refine AllReadyH.cons (o := { dst := some 51, op := Op.lookup 61 (Operand.tmp 49) (Operand.tmp 50) false, type := 3, pos := "c5_domino.go:104", after := #[{ on := 0, ground := Ground.data }, { on := 1, ground := Ground.data }], guard := none }) rfl (fun K hK => step_lookup rfl (.tmp 49) (.tmp 50) 61 rfl 60 3 .i64 mlawA Tryd.underlying61 Tryd.underlying3 (mzeroA _) nb _ _ ((act_ne _ (by decide) _).trans ((act_ne _ (by decide) _).trans b49)) own _ kl ((act_ne _ (by decide) _).trans ((act_ne _ (by decide) _).trans b50)) hkey _ hy2 (hK.out _ _ bx (fun _ => any_eq (by rfl) (by rw [act_swap _ 55 51 _ _ (by decide), act_swap _ 54 51 _ _ (by decide)]) (s12 st w' own hS bx hg)))) ?_
    exact AllReadyH.nil
  have s01 : ∀ (st : Nat) (w' : World) (own : OwnsA w' nb (n + 1) (D.put kl (.lit (.int .i64 (y : Int))))) (hS : Stores Tryd.prog 60 3 61 nb n D kl w' st) (bx : Box w' gw 60 (bitsF f)) (hg : W0.grownBy w' (some nb)), wpAnyH Tryd.prog .any ops13 Q (fun w' => Box w' gw 60 (bitsF f)) 4 #[true, true, false, true, false, true, false, false] (b0.put (some 54) (.tuple #[.int .i64 (y : Int), goInt st])) w' := by
    intro st w' own hS bx hg
    refine wpAnyH_ready (rs := [2, 6]) (by kernel_rfl) (by simp) ?_
    refine AllReadyH.cons (o := { dst := some 51, op := Op.lookup 61 (Operand.tmp 49) (Operand.tmp 50) false, type := 3, pos := "c5_domino.go:104", after := #[{ on := 0, ground := Ground.data }, { on := 1, ground := Ground.data }], guard := none }) rfl (fun K hK => step_lookup rfl (.tmp 49) (.tmp 50) 61 rfl 60 3 .i64 mlawA Tryd.underlying61 Tryd.underlying3 (mzeroA _) nb _ _ ((act_ne _ (by decide) _).trans b49) own _ kl ((act_ne _ (by decide) _).trans b50) hkey _ hy2 (hK.out _ _ bx (fun _ => any_eq (by rfl) (by rw [act_swap _ 54 51 _ _ (by decide)]) (s11 st w' own hS bx hg)))) ?_
    refine AllReadyH.cons (o := { dst := some 55, op := Op.extract (Operand.tmp 54) 1, type := 3, pos := "c5_domino.go:104", after := #[{ on := 5, ground := Ground.data }], guard := none }) rfl (fun K hK => step_extract rfl (.tmp 54) rfl (act_self (by simp [act_size, hbs]) _) (hK.out _ _ bx (fun _ => any_eq (by rfl) (rfl) (s02 st w' own hS bx hg)))) ?_
    exact AllReadyH.nil
  have s00 : ∀ (w' : World) (own : OwnsA w' nb n D) (bx : Box w' gw 60 (bitsF f)) (hg : W0.grownBy w' (some nb)), wpAnyH Tryd.prog .any ops13 Q (fun w' => Box w' gw 60 (bitsF f)) 5 #[true, true, false, true, false, false, false, false] b0 w' := by
    intro w' own bx hg
    refine wpAnyH_ready (rs := [2, 5]) (by kernel_rfl) (by simp) ?_
    refine AllReadyH.cons (o := { dst := some 51, op := Op.lookup 61 (Operand.tmp 49) (Operand.tmp 50) false, type := 3, pos := "c5_domino.go:104", after := #[{ on := 0, ground := Ground.data }, { on := 1, ground := Ground.data }], guard := none }) rfl (fun K hK => step_lookup rfl (.tmp 49) (.tmp 50) 61 rfl 60 3 .i64 mlawA Tryd.underlying61 Tryd.underlying3 (mzeroA _) nb _ _ b49 own _ kl b50 hkey _ hy (hK.out _ _ bx (fun _ => any_eq (by rfl) (rfl) (s10 w' own bx hg)))) ?_
    refine AllReadyH.cons (o := { dst := some 54, op := Op.mapEntry 61 (Operand.tmp 49) (Operand.tmp 50), type := 0, pos := "c5_domino.go:104", after := #[{ on := 0, ground := Ground.data }, { on := 1, ground := Ground.data }, { on := 0, ground := Ground.phase }, { on := 1, ground := Ground.phase }, { on := 2, ground := Ground.textOnly Departure.mapOpAssignEntry }, { on := 3, ground := Ground.phase }, { on := 4, ground := Ground.textOnly Departure.mapOpAssignEntry }], guard := none }) rfl (fun K hK => step_entry2 rfl (.tmp 49) (.tmp 50) rfl b49 own hn b50 hkey hy (fun st w1 own1 hg1 hS1 => hK.out _ _ (bx.grownN hg1 hne) (fun _ => any_eq (by rfl) (rfl) (s01 st w1 own1 hS1 (bx.grownN hg1 hne) (grown_then hg hg1))))) ?_
    exact AllReadyH.nil
  refine wp_region_held_drew (S := (fun w' => Box w' gw 60 (bitsF f))) (by kernel_rfl) bw (fun hHeld => ?_)
  refine wpAnyH_take (i := 0) (oi := { dst := some 49, op := Op.move (Operand.tmp 9), type := 61, pos := "c5_domino.go:104", after := #[], guard := none }) (v := .map (some nb)) rfl (by kernel_rfl) (by kernel_rfl) (by kernel_rfl) (fun c a w h => hQ c a _ _ w h) (Or.inl ⟨by simp [Region.wanted], fun w' hS => ?_⟩) hHeld ?_
  · simp [execOp, e9]
  refine wpAnyH_take (i := 1) (oi := { dst := some 50, op := Op.load 60 (Operand.tmp 13), type := 60, pos := "c5_domino.go:104", after := #[], guard := none }) (v := (.agg #[.bool (f 0), .bool (f 1), .bool (f 2), .bool (f 3), .bool (f 4)])) rfl (by kernel_rfl) (by kernel_rfl) (by kernel_rfl) (fun c a w h => hQ c a _ _ w h) (Or.inl ⟨by simp [Region.wanted], fun w' hS => ?_⟩) hHeld ?_
  · have hev : (a.put (some 49) (.map (some nb))).eval (.tmp 13) = .pointer (some ⟨gw, 0, none⟩) := (act_ne _ (by decide) _).trans e13
    have hld := run_load5 hS
    simp [execOp, hev, hld, Result.andThen]
  refine wpAnyH_take (i := 3) (oi := { dst := some 52, op := Op.move (Operand.tmp 11), type := 3, pos := "c5_domino.go:104", after := #[], guard := none }) (v := .int .i64 (c : Int)) rfl (by kernel_rfl) (by kernel_rfl) (by kernel_rfl) (fun c a w h => hQ c a _ _ w h) (Or.inl ⟨by simp [Region.wanted], fun w' hS => ?_⟩) hHeld ?_
  · have hev : ((a.put (some 49) (.map (some nb))).put (some 50) (.agg #[.bool (f 0), .bool (f 1), .bool (f 2), .bool (f 3), .bool (f 4)])).eval (.tmp 11) = .int .i64 (c : Int) := (act_ne _ (by decide) _).trans ((act_ne _ (by decide) _).trans e11)
    simp [execOp, hev]
  exact any_eq (by rfl) hb0 (s00 W0.drew (show OwnsA W0.drew nb n D from hown) (show Box W0.drew gw 60 (bitsF f) from bw) ⟨rfl, rfl, rfl, Nat.le_refl _, fun _ _ _ => rfl⟩)
end Go.Proofs.YtnikgnicjbcbmabDoor

/-
  The program's covers row by row: coversByRows.
-/
namespace Go.Proofs.YtnikgnicjbcbmabDoor
open Go.RowKit Go.Maps
set_option linter.unusedVariables false

/-- A key and its element laid into the call's own map, as a map that is written out is made. -/
theorem insert_ownA {P : Program} (w : World) {ops : Array Oper} {rest : List Oper} {o : Oper} {a : Act} {Q : Exit → Act → World → Prop}
    (hg : o.guard = none) (m x v : Operand) (t : TypeId) (hop : o.op = Op.insert t m x v)
    (k e : TypeId) (K : Keyed P k) (ht : P.underlying t = some (.map k e)) (R : Value → Option (DataW Unit × List MemPlace)) (b n : Nat) (D : DataW Unit)
    (hm : a.eval m = .map (some b)) (hown : w.ownsMap P k R b n D) (hn : n < maxLen) (key val : Value) (kl : Lit) (hx : a.eval x = key) (hv : a.eval v = val) (hkey : keyOf P k key = some kl)
    (d : DataW Unit) (ps : List MemPlace) (hval : R val = some (d, ps))
    (hK : ∀ w', w'.ownsMap P k R b (n + 1) (D.put kl d) → w.grownBy w' (some b) → wpList P ops Q rest (a.put o.dst undef) w') :
    wpList P ops Q (o :: rest) a w := by
  refine wpList_plain hg fun K' hK' => ?_
  obtain ⟨w', hrun, r1, r2⟩ := hown.update K ht hn hkey hval
  unfold Oper.wp
  simp [execOp, hop, hm, hx, hv, hrun, Result.andThen]
  exact hK' _ _ (hK w' r1 r2)
theorem cells_zero : bitsF (Nat.testBit 0) = #[.bool false, .bool false, .bool false, .bool false, .bool false] := by simp [bitsF]
theorem key_zero : keyOf Tryd.prog 60 (.agg #[.bool false, .bool false, .bool false, .bool false, .bool false]) = some (klit 0) := by
  rw [← cells_zero]
  exact keyOf_s 0
theorem eight {k : Nat} (h : k ≤ 5) : 8 ^ k ≤ 32768 := Nat.le_trans (Nat.pow_le_pow_right (by omega) h) (by decide)
theorem grown_none {w w' : World} (h : Below w.heap.size w w') : w.grownBy w' none := ⟨h.os, h.tape, h.output, h.size, fun k hk _ => h.block k hk⟩
theorem map_below {w w' : World} {b n : Nat} {D : DataW Unit} (h : OwnsA w b n D) (hb : Below w.heap.size w w') : OwnsA w' b n D := h.kept (grown_none hb) (fun e => by cases e)
def oneF (t : Nat) : Nat := if t = 0 then 1 else 0
theorem wt_one (R : Nat → Nat) : wt oneF R = R 0 := by
  unfold wt
  rw [sumN_one 0 32 (by omega) (fun i _ hi => by unfold oneF; rw [if_neg hi, Nat.zero_mul])]
  simp [oneF]
def goodR (w set k t : Nat) : Prop := t < 2 ^ w ∧ dif t (rowS w set k) = 0
theorem five_lt {w s : Nat} (hw : w ≤ 5) (h : s < 2 ^ w) : s < 32 := Nat.lt_of_lt_of_le h (Nat.pow_le_pow_right (n := 2) (by omega) hw)

set_option maxHeartbeats 16000000 in
set_option maxRecDepth 100000 in
theorem coversByRows_c (w h set : Nat) (g : Nat → Bool) (hw : 1 ≤ w ∧ w ≤ 5) (hh : 1 ≤ h ∧ h ≤ 5) (hset : ∀ i, set.testBit i = (decide (i < w * h) && !g i)) (hs : set < 33554432) (W : World) :
    Calls Tryd.prog 20 #[boardV (w : Int) (h : Int), .int .i64 (set : Int)] W (Plain (.int .i64 ((rowsT w h g h 0 : Nat) : Int)) W) := by
  have bx0 := Box.new W 32 #[.int .i64 (w : Int), .int .i64 (h : Int)]
  have hmm := @run_makeMap Tryd.prog
  have hmade := hide (World.ownsMap_made (W.alloc (.cells #[.int .i64 (w : Int), .int .i64 (h : Int)] 32)) Tryd.prog 60 (plainElem (H := Unit) Tryd.prog 3))
  have HST := hide (fun (m s : Nat) (hm : m + 1 ≤ h) (hs : s < 2 ^ w) (hg : dif s (rowS w set (h - (m + 1))) = 0) => rows_step hw hm hset hs hg)
  have HCI := hide (fun (row : Nat) (hr : row ≤ 5) (w5 : World) => cellsIn_c w h row set w5 hw hr hs)
  generalize hT : rowsT w h g h 0 = T at *
  have hR0 : Hid (∀ s, rowsT w h g 0 s = if s = 0 then 1 else 0) := fun s => rfl
  have hRh : Hid (rowsT w h g (h - 0) 0 = T) := hT
  clear hT
  generalize rowsT w h g = R at *
  clear hset
  go_enter Tryd.func20, Tryd.ntmps20
  go_wp2_with (first
    | (refine insert_ownA _ rfl _ _ _ 61 rfl 60 3 mlawA Tryd.underlying61 (plainElem Tryd.prog 3) (W.heap.size + 1) 0 _ rfl (by simpa using hmade.out) (by unfold maxLen; omega) _ _ _ rfl rfl key_zero _ [] (plainElem_int Tryd.underlying3 (by decide)) ?_; intro w1 own1 hg1
       have bx1 := (bx0.alloc (.map #[] 0)).grown hg1 (by simp)
       have q0 := bx1.cell 0
       have q1 := bx1.cell 1)
    | go_in)
  have hb1 := (((Below.refl W.heap.size W).alloc (Nat.le_refl _) (.cells #[.int .i64 (w : Int), .int .i64 (h : Int)] 32)).alloc (by simp) (.map #[] 0)).grown hg1 (by simp; omega) (fun j hj => by cases hj; exact Nat.le_succ _)
  have hv1 : Hid (ViewA (DataW.put (.map []) (klit 0) (.lit (.int .i64 1))) oneF (goodR w set 0)) :=
    ((ViewA.empty (goodR w set 0)).put (x := 0) (by omega) ⟨Nat.pow_pos (by omega), by simp [dif]⟩ 1).congr fun t _ => rfl
  clear hmade hg1 q0 q1
  go_loopw [5, 19] (fun m i wr => ∃ (k b nk : Nat) (D : DataW Unit) (F : Nat → Nat), k ≤ h ∧ i = .int .i64 (k : Int) ∧ m = .map (some b) ∧ W.heap.size < b ∧ OwnsA wr b nk D ∧ Hid (nk ≤ 8 ^ k) ∧ Hid (ViewA D F (goodR w set k)) ∧ Hid (wt F (R (h - k)) = T) ∧ Hid (wt F (fun _ => 1) ≤ 8 ^ k) ∧
    Below W.heap.size W wr ∧ Box wr W.heap.size 32 #[.int .i64 (w : Int), .int .i64 (h : Int)]) (fun _ i _ => h - (intOf i).toNat)
  case atStart => exact ⟨0, W.heap.size + 1, 1, _, oneF, Nat.zero_le _, rfl, rfl, by omega, own1, Nat.le_refl _, hv1, (wt_one _).trans hRh.out, Nat.le_of_eq (wt_one _), hb1, bx1⟩
  case round =>
    obtain ⟨k, b, nk, D, F, hk, rfl, rfl, hbW, hown, hnk, hv, hwt, hw1, hb, bx⟩ := hrel
    obtain ⟨wo, rfl⟩ : ∃ wo : World, wo = wr := ⟨_, rfl⟩
    have z := hb.size
    have c0 := bx.cell 0
    have c1 := bx.cell 1
    by_cases hlt : k < h
    · have HC1 := hide (fun w5 => HCI.out k (by omega) w5)
      have HC2 := hide (fun w5 => HCI.out (k + 1) (by omega) w5)
      obtain ⟨fA, hfA⟩ : ∃ fA, fA = (rowS w set k).testBit := ⟨_, rfl⟩
      obtain ⟨fB, hfB⟩ : ∃ fB, fB = (rowS w set (k + 1)).testBit := ⟨_, rfl⟩
      have HC1 := hide (fun w5 => show Calls Tryd.prog 32 #[boardV (w : Int) (h : Int), .int .i64 (k : Int), .int .i64 (set : Int)] w5 (Plain (.agg #[.bool (fA 0), .bool (fA 1), .bool (fA 2), .bool (fA 3), .bool (fA 4)]) w5) by
        have := HCI.out k (by omega) w5
        rwa [show cellsV (rowS w set k) = .agg (bitsF fA) by rw [hfA]] at this)
      have HC2 := hide (fun w5 => show Calls Tryd.prog 32 #[boardV (w : Int) (h : Int), .int .i64 ((k : Int) + 1), .int .i64 (set : Int)] w5 (Plain (.agg #[.bool (fB 0), .bool (fB 1), .bool (fB 2), .bool (fB 3), .bool (fB 4)]) w5) by
        have := HCI.out (k + 1) (by omega) w5
        rwa [show cellsV (rowS w set (k + 1)) = .agg (bitsF fB) by rw [hfB], show ((k + 1 : Nat) : Int) = (k : Int) + 1 by omega] at this)
      have ek : IntKind.i64.wrap ((k : Int) + 1) = (k : Int) + 1 := IntWalk.i64_in _ (by omega)
      have HFA := hide hfA
      have HFB := hide hfB
      clear hfA hfB
      go_wp2_with fail
      refine wp_region_noPanic (region5_w (fun _ _ _ _ _ h => h) (gb := W.heap.size) (w := (w : Int)) (h := (h : Int)) (k := (k : Int)) (set := (set : Int)) (fA := fA) (fB := fB) rfl rfl rfl rfl ek bx HC1.out HC2.out ?_)
      intro g7 g8 w5 ne l7 l8 y7 y8 bx5 hb5
      refine NoPanic.normal ?_
      simp only [Act.put, List.setIfInBounds_toArray, List.set_cons_zero, List.set_cons_succ]
      have hown5 := map_below hown hb5
      have hbW := below_then hb hb.size hb5
      have hbb := hown.lt
      have hmade5 := hide (World.ownsMap_made w5 Tryd.prog 60 (plainElem (H := Unit) Tryd.prog 3))
      clear c0 c1 hb bx hown
      have hnb : nk ≤ 32768 := Nat.le_trans hnk.out (eight (by omega))
      have ha6 : Below w5.heap.size w5 (w5.alloc (.map #[] 0)) := (Below.refl _ _).alloc (Nat.le_refl _) _
      have hown6 := map_below hown5 ha6
      have hbW6 := below_then hbW hbW.size ha6
      have y7_5 := y7
      have y8_5 := y8
      have y7 := y7.then ha6
      have y8 := y8.then ha6
      have bx6 := bx5.then ha6
      clear hown5 hb5 bx5
      go_wp2_with (first
        | (at_range; refine wpList_range_own _ rfl _ 61 rfl 60 3 mlawA Tryd.underlying61 _ b nk _ rfl hown6 ?_; intro w6 hrg6 hg6 hs6)
        | go_in)
      try go_frame
      have hsD : Maps.size D ≤ nk := sizeA_le hown6
      have hnew := hmade5.out.kept hg6 (fun e => by cases e)
      have y7 := y7.grown hg6 (by simp)
      have y8 := y8.grown hg6 (by simp)
      have bx := bx6.grown hg6 (by simp)
      have hb := hbW6.grown hg6 hbW6.size (fun j hj => by cases hj)
      have hz5 := hbW.size
      have hs6' : (w5.alloc (.map #[] 0)).heap.size = w5.heap.size + 1 := by simp
      obtain ⟨nb, hnbE⟩ : ∃ nb, w5.heap.size = nb := ⟨_, rfl⟩
      obtain ⟨it, hit⟩ : ∃ it, (w5.alloc (.map #[] 0)).heap.size = it := ⟨_, rfl⟩
      have hnit : nb + 1 = it := by omega
      have h7nb : g7 < nb := by have := y7_5.in_; omega
      have h8nb : g8 < nb := by have := y8_5.in_; omega
      have hbnb : b < nb := by omega
      have hWb : W.heap.size ≤ nb := by omega
      rw [hit] at hrg6 ⊢
      rw [hnbE] at hnew ⊢
      have hlw : ∀ t, t < 32 → leftW F (Maps.has D) t = F t := fun t ht => by
        unfold leftW
        cases hh : Maps.has D (klit t) with
        | true => rfl
        | false => simp [hv.out.none ht hh]
      have hA1 : Hid (wt (fun _ => 0) (R (h - (k + 1))) + wt (leftW F (Maps.has D)) (R (h - k)) = T) := by
        show _ = _
        rw [wt_zero, wt_congr hlw, Nat.zero_add]; exact hwt.out
      have hA2 : Hid (wt (fun _ => 0) (fun _ => 1) + 8 * wt (leftW F (Maps.has D)) (fun _ => 1) ≤ 8 ^ (k + 1)) := by
        show _ ≤ _
        have := hw1.out
        rw [wt_zero, wt_congr hlw, Nat.pow_succ]; omega
      clear hmade5 hown6 hbW6 hg6 hs6 hs6' hit hnbE bx6 ha6 hbW
      go_loopw [11] (fun _ wr => ∃ (left : Lit → Bool) (cnt nN : Nat) (DN : DataW Unit) (Fn : Nat → Nat), wr.ranges Tryd.prog 60 (plainElem Tryd.prog 3) b it nk D left cnt ∧ OwnsA wr nb nN DN ∧ Hid (ViewA DN Fn (goodR w set (k + 1))) ∧
        Hid (wt Fn (R (h - (k + 1))) + wt (leftW F left) (R (h - k)) = T) ∧ Hid (wt Fn (fun _ => 1) + 8 * wt (leftW F left) (fun _ => 1) ≤ 8 ^ (k + 1)) ∧ Hid (nN + 8 * cnt ≤ 8 * nk) ∧ Hid (∀ kl, left kl = true → Maps.has D kl = true) ∧
        Below W.heap.size W wr ∧ Box wr g7 60 (bitsF fA) ∧ Box wr g8 60 (bitsF fB) ∧ Box wr W.heap.size 32 #[.int .i64 (w : Int), .int .i64 (h : Int)]) (fun _ wr => wr.rangeLeft b it)
      case atStart => exact ⟨_, _, 0, _, fun _ => 0, hrg6, hnew, ViewA.empty _, hA1, hA2, (by show _ ≤ _; omega), fun kl h => h, hb, y7, y8, bx⟩
      case round =>
        clear hrg6 hnew hA1 hA2 hb y7 y8 bx hwt hw1
        obtain ⟨left, cnt, nN, DN, Fn, hrg, hN, hvN, hI1, hI2, hI3, hlD, hb, y7, y8, bx⟩ := hrel
        obtain ⟨wi, rfl⟩ : ∃ wi : World, wi = wr := ⟨_, rfl⟩
        go_wp2_with (first
          | (at_next; refine wpList_next_ranges _ rfl _ rfl 60 mlawA (plainElem Tryd.prog 3) (fun v : Value => v) (Value.int .i64) (fun key kl hk => ⟨key, rfl⟩) (fun v y hv => by obtain ⟨c, rfl, _⟩ := plainElem_int_inv Tryd.underlying3 hv; exact ⟨c, rfl⟩) b it nk D left cnt rfl hrg ?_ ?_)
          | go_in)
        · intro hc0 hl0
          have hzero : ∀ R', wt (leftW F left) R' = 0 := fun R' => by
            rw [wt_congr (F' := fun _ => 0) (fun t _ => by unfold leftW; rw [hl0]; simp), wt_zero]
          have e1 := hI1.out
          have e2 := hI2.out
          have e3 := hI3.out
          rw [hzero] at e1 e2
          have hE1 : Hid (wt Fn (R (h - (k + 1))) = T) := by show _ = _; omega
          have hE2 : Hid (wt Fn (fun _ => 1) ≤ 8 ^ (k + 1)) := by show _ ≤ _; omega
          have hE3 : Hid (nN ≤ 8 ^ (k + 1)) := by
            show _ ≤ _
            have := hnk.out
            rw [Nat.pow_succ]; omega
          clear e1 e2 e3 hI1 hI2 hI3 hzero
          go_wp2
          exact ⟨⟨k + 1, nb, nN, DN, Fn, by omega, by simp, rfl, by omega, hN, hE3, hvN, hE1, hE2, hb, bx⟩, by simp only [intOf]; omega⟩
        · intro x c kl yd yp w1 cnt1 hkey hlx hval hat hrg1 hlt1 hg1 hs1 hen
          obtain ⟨t, ht, hgd, rfl⟩ := hv.out.2.2 _ (hlD.out _ hlx)
          obtain ⟨fC, hfC⟩ : ∃ fC, fC = t.testBit := ⟨_, rfl⟩
          obtain rfl : x = .agg #[.bool (fC 0), .bool (fC 1), .bool (fC 2), .bool (fC 3), .bool (fC 4)] := by
            rw [klaw.inj hkey (keyOf_s t), hfC]; rfl
          obtain ⟨c', ec, ey, _⟩ := plainElem_int_inv Tryd.underlying3 hval
          injection ec with _ ec
          injection ey with e1 _
          obtain rfl : yd = .lit (.int .i64 c) := by rw [e1, ec]
          obtain rfl : c = ((F t : Nat) : Int) := hv.out.val ht (hat _)
          have hstr1 := hide (leftW_strike (F := F) ht hlx (R (h - k)))
          have hstr2 := hide (leftW_strike (F := F) ht hlx (fun _ => 1))
          have hlD1 : Hid (∀ kl, (left kl && !kl.sameKey (klit t)) = true → Maps.has D kl = true) := fun kl h => hlD.out kl (by simp only [Bool.and_eq_true] at h; exact h.1)
          have HFC := hide hfC
          have hgd := hide hgd
          have hit2 := hrg.lt
          have hmeas := hide (show wi.rangeLeft b it = cnt from hrg.left_eq)
          have hN1 := hN.kept hg1 (fun e => by injection e with e; omega)
          have y7 := y7.grown hg1 (by simp; omega)
          have y8 := y8.grown hg1 (by simp; omega)
          have bx := bx.grown hg1 (by simp; omega)
          have hb := hb.grown hg1 hb.size (fun j hj => by injection hj with hj; omega)
          have hlt1 := hide hlt1
          have q0 := Box.new w1 60 (bitsF fun _ => false)
          obtain ⟨t0, f0', t1, f1, t2, f2, t3, f3, t4, f4, r0, r1, r2, r3, r4, hbx⟩ := end5 q0 fC
          clear hfC e1 ec hat hval hkey hlx hN hrg hlD hs1
          go_wp2_with fail
          have hb2 := hb.alloc hb.size (.cells #[.bool (fC 0), .bool (fC 1), .bool (fC 2), .bool (fC 3), .bool (fC 4)] 60)
          have y72 := y7.alloc (.cells #[.bool (fC 0), .bool (fC 1), .bool (fC 2), .bool (fC 3), .bool (fC 4)] 60)
          have y82 := y8.alloc (.cells #[.bool (fC 0), .bool (fC 1), .bool (fC 2), .bool (fC 3), .bool (fC 4)] 60)
          have bx2 := bx.alloc (.cells #[.bool (fC 0), .bool (fC 1), .bool (fC 2), .bool (fC 3), .bool (fC 4)] 60)
          have y92 : Box (w1.alloc (.cells #[.bool (fC 0), .bool (fC 1), .bool (fC 2), .bool (fC 3), .bool (fC 4)] 60)) w1.heap.size 60 (bitsF fC) := Box.new w1 60 (bitsF fC)
          have ga2 : w1.grownBy (w1.alloc (.cells #[.bool (fC 0), .bool (fC 1), .bool (fC 2), .bool (fC 3), .bool (fC 4)] 60)) none := grown_none ((Below.refl _ _).alloc (Nat.le_refl _) _)
          have hrg2 := hrg1.kept ga2 (fun e => by cases e) (fun e => by cases e)
          have hN2 := hN1.kept ga2 (fun e => by cases e)
          generalize hw2 : w1.alloc (.cells #[.bool (fC 0), .bool (fC 1), .bool (fC 2), .bool (fC 3), .bool (fC 4)] 60) = w2 at *
          have hz1 : it < w1.heap.size := hrg1.lt
          obtain ⟨g9, hg9⟩ : ∃ g9, w1.heap.size = g9 := ⟨_, rfl⟩
          rw [hg9] at y92 hz1 ⊢
          have hz2 : g9 < w2.heap.size := y92.in_
          clear y7 y8 bx hb hrg1 hN1 ga2 hw2 q0 t0 f0' t1 f1 t2 f2 t3 f3 t4 f4 r0 r1 r2 r3 r4 hbx hg9 hg1
          obtain ⟨fD, hfD⟩ : ∃ fD, fD = (dif (rowS w set k) t).testBit := ⟨_, rfl⟩
          have HWO := hide (fun w5 => show Calls Tryd.prog 34 #[.agg #[.bool (fA 0), .bool (fA 1), .bool (fA 2), .bool (fA 3), .bool (fA 4)], .agg #[.bool (fC 0), .bool (fC 1), .bool (fC 2), .bool (fC 3), .bool (fC 4)]] w5 (Plain (.agg #[.bool (fD 0), .bool (fD 1), .bool (fD 2), .bool (fD 3), .bool (fD 4)]) w5) by
            have := without_c (rowS w set k) t w5
            rwa [show cellsV (rowS w set k) = .agg (bitsF fA) by rw [HFA.out], show cellsV t = .agg (bitsF fC) by rw [HFC.out], show cellsV (dif (rowS w set k) t) = .agg (bitsF fD) by rw [hfD]] at this)
          have hr0 : rowS w set k < 32 := five_lt hw.2 (rowS_lt w set k)
          have hr1 : rowS w set (k + 1) < 32 := five_lt hw.2 (rowS_lt w set (k + 1))
          have hdl : dif (rowS w set k) t < 32 := Nat.lt_of_le_of_lt (dif_le _ _) hr0
          have HL := ways_in ⟨_, hdl⟩ ⟨_, hr1⟩
          have HCO := fun w5 => coversOf_c (dif (rowS w set k) t) (rowS w set (k + 1)) hdl hr1 w5
          have HST1 := HST.out (h - (k + 1)) t (by omega) hgd.out.1 (by rw [show h - (h - (k + 1) + 1) = k by omega]; exact hgd.out.2)
          rw [show h - (h - (k + 1) + 1) = k by omega, show h - (h - (k + 1)) = k + 1 by omega, show h - (k + 1) + 1 = h - k by omega] at HST1
          simp only at HL
          generalize waysP 6 (dif (rowS w set k) t) (rowS w set (k + 1)) = L at *
          have HCO := hide (fun w5 => show Calls Tryd.prog 33 #[.agg #[.bool (fD 0), .bool (fD 1), .bool (fD 2), .bool (fD 3), .bool (fD 4)], .agg #[.bool (fB 0), .bool (fB 1), .bool (fB 2), .bool (fB 3), .bool (fB 4)]] w5 (Owns 60 5 L.length (flatS L) w5) by
            have := HCO w5
            rwa [show cellsV (dif (rowS w set k) t) = .agg (bitsF fD) by rw [hfD], show cellsV (rowS w set (k + 1)) = .agg (bitsF fB) by rw [HFB.out]] at this)
          have HL := hide HL
          have HST1 := hide HST1
          clear hfD hdl
          obtain ⟨p0, p1, p2, p3, p4, p5, p6, p7, p8, p9⟩ := box10 y72
          obtain ⟨q0, q1, q2, q3, q4, q5, q6, q7, q8, q9⟩ := box10 y82
          obtain ⟨r0, r1, r2, r3, r4, r5, r6, r7, r8, r9⟩ := box10 y92
          go_wp2_with fail
          go_region_held3 (fun w' => w'.cell? ⟨g7, 0, none⟩ = some (.bool (fA 0)) ∧ w'.cell? ⟨g7, 1, none⟩ = some (.bool (fA 1)) ∧ w'.cell? ⟨g7, 2, none⟩ = some (.bool (fA 2)) ∧ w'.cell? ⟨g7, 3, none⟩ = some (.bool (fA 3)) ∧ w'.cell? ⟨g7, 4, none⟩ = some (.bool (fA 4)) ∧ w'.cell? ⟨g8, 0, none⟩ = some (.bool (fB 0)) ∧ w'.cell? ⟨g8, 1, none⟩ = some (.bool (fB 1)) ∧ w'.cell? ⟨g8, 2, none⟩ = some (.bool (fB 2)) ∧ w'.cell? ⟨g8, 3, none⟩ = some (.bool (fB 3)) ∧ w'.cell? ⟨g8, 4, none⟩ = some (.bool (fB 4)) ∧ w'.cell? ⟨g9, 0, none⟩ = some (.bool (fC 0)) ∧ w'.cell? ⟨g9, 1, none⟩ = some (.bool (fC 1)) ∧ w'.cell? ⟨g9, 2, none⟩ = some (.bool (fC 2)) ∧ w'.cell? ⟨g9, 3, none⟩ = some (.bool (fC 3)) ∧ w'.cell? ⟨g9, 4, none⟩ = some (.bool (fC 4))) (refine ⟨?_, ?_, ?_, ?_, ?_, ?_, ?_, ?_, ?_, ?_, ?_, ?_, ?_, ?_, ?_⟩ <;> assumption)
            (first
              | (go_at_call 34; refine (HWO.out _).mono ?_
                 rintro e w3 ⟨rfl, b3⟩
                 have y73 : Box w3 g7 60 (bitsF fA) := (b3.block g7 y72.in_).trans y72
                 have y83 : Box w3 g8 60 (bitsF fB) := (b3.block g8 y82.in_).trans y82
                 have y93 : Box w3 g9 60 (bitsF fC) := (b3.block g9 y92.in_).trans y92
                 obtain ⟨s0, s1, s2, s3, s4⟩ := box5 y73
                 obtain ⟨t0, t1, t2, t3, t4⟩ := box5 y83
                 obtain ⟨u0, u1, u2, u3, u4⟩ := box5 y93)
              | (go_at_call 33; refine (HCO.out _).mono ?_
                 rintro e w4 ⟨v4, rfl, o4, b4⟩
                 have y74 : Box w4 g7 60 (bitsF fA) := (b4.block g7 y73.in_).trans y73
                 have y84 : Box w4 g8 60 (bitsF fB) := (b4.block g8 y83.in_).trans y83
                 have y94 : Box w4 g9 60 (bitsF fC) := (b4.block g9 y93.in_).trans y93
                 obtain ⟨v0, v1, v2, v3, v4⟩ := box5 y74
                 obtain ⟨x0, x1, x2, x3, x4⟩ := box5 y84
                 obtain ⟨z0, z1, z2, z3, z4⟩ := box5 y94
                 obtain ⟨A4, c4, rfl, hA1, hA2, hA3, hA4⟩ := own_row o4)
              | fail)
          have hg3 : w2.grownBy w3 none := ⟨b3.os, b3.tape, b3.output, b3.size, fun k hk _ => b3.block k hk⟩
          have hrg4 := (hrg2.kept hg3 (fun e => by cases e) (fun e => by cases e)).kept (grown_none b4) (fun e => by cases e) (fun e => by cases e)
          have hN4 := (hN2.kept hg3 (fun e => by cases e)).kept (grown_none b4) (fun e => by cases e)
          have hb3 := below_then hb2.drew hb2.size b3
          have hb4 := below_then hb3 hb3.size b4
          have bx4 := (bx2.grown hg3 (by simp)).then b4
          have hz3 : w2.heap.size ≤ w3.heap.size := b3.size
          have hz7 := y72.in_
          have hitlt : it < w3.heap.size := by omega
          have hnblt : nb < w3.heap.size := by omega
          have hWlt : W.heap.size < w3.heap.size := by omega
          clear hg3 hrg2 hN2 hb2 hb3 b3 b4 bx2 y72 y82 y92 y73 y83 y93 y94 p0 p1 p2 p3 p4 p5 p6 p7 p8 p9 q0 q1 q2 q3 q4 q5 q6 q7 q8 q9 r0 r1 r2 r3 r4 r5 r6 r7 r8 r9 s0 s1 s2 s3 s4 t0 t1 t2 t3 t4 u0 u1 u2 u3 u4 v0 v1 v2 v3 v4 x0 x1 x2 x3 x4 z0 z1 z2 z3 z4 hz1 hz2
          have hL8 : L.length ≤ 8 := HL.out.1
          obtain ⟨G, hG⟩ : ∃ G, w3.heap.size = G := ⟨_, rfl⟩
          rw [hG] at o4 hA4 hitlt hnblt hWlt
          go_wp2_with fail
          go_loopw [45] (fun i wr => ∃ (j n2 : Nat) (D2 : DataW Unit) (F2 : Nat → Nat), j ≤ L.length ∧ i = .int .i64 (j : Int) ∧ wr.ranges Tryd.prog 60 (plainElem Tryd.prog 3) b it nk D (fun z => left z && !z.sameKey (klit t)) cnt1 ∧
            OwnsA wr nb n2 D2 ∧ Hid (ViewA D2 F2 (goodR w set (k + 1))) ∧ Hid (n2 = nN + j) ∧ Hid (wt F2 (R (h - (k + 1))) = wt Fn (R (h - (k + 1))) + F t * ((L.take j).map (R (h - (k + 1)))).sum) ∧
            Hid (wt F2 (fun _ => 1) = wt Fn (fun _ => 1) + F t * j) ∧ wr.ownsRow G 60 5 (.slice A4 L.length c4) L.length (flatS L) ∧
            Below W.heap.size W wr ∧ Box wr g7 60 (bitsF fA) ∧ Box wr g8 60 (bitsF fB) ∧ Box wr W.heap.size 32 #[.int .i64 (w : Int), .int .i64 (h : Int)]) (fun i _ => L.length - (intOf i).toNat)
          case atStart => exact ⟨0, nN, DN, Fn, Nat.zero_le _, rfl, hrg4, hN4, hvN, rfl, (by show _ = _; simp), (by show _ = _; simp), o4, hb4, y74, y84, bx4⟩
          case round =>
            clear hrg4 hN4 o4 hA3 hA4 hb4 y74 y84 bx4
            obtain ⟨j, n2, D2, F2, hj, rfl, hrg, hN, hv2, hn2, hs1, hs2, own, hb, y7, y8, bx⟩ := hrel
            obtain ⟨wq, rfl⟩ : ∃ wq : World, wq = wr := ⟨_, rfl⟩
            by_cases hlj : j < L.length
            · obtain ⟨A5, c5, e5, _, _, hr, hf3⟩ := own_row own
              cases e5
              obtain ⟨ad, rfl, _⟩ := hr 0 (by have := flatS_len L; omega)
              obtain ⟨g, rfl, hgG, hgl, hob⟩ := hf3 _ rfl
              obtain ⟨x0, x1, x2, x3, x4⟩ := Row.row5 hr hlj
              obtain ⟨xs, hxs⟩ : ∃ xs, xs = L[j]?.getD 0 := ⟨_, rfl⟩
              have hxL : xs ∈ L := by rw [hxs, List.getElem?_eq_getElem hlj]; exact List.getElem_mem _
              obtain ⟨hx32, hxd⟩ := HL.out.2 xs hxL
              have hxg : goodR w set (k + 1) xs := ⟨by
                have h1 : xs ≤ rowS w set (k + 1) := by
                  have h0 : xs = xs &&& rowS w set (k + 1) := ?_
                  · rw [h0]; exact Nat.and_le_right
                  refine Nat.eq_of_testBit_eq fun i => ?_
                  have h2 := congrArg (fun z => z.testBit i) hxd
                  simp only [dif_bit, Nat.zero_testBit] at h2
                  rw [Nat.testBit_and]
                  cases ha : xs.testBit i <;> simp_all
                exact Nat.lt_of_le_of_lt h1 (rowS_lt w set (k + 1)), hxd⟩
              have htake : Hid (((L.take (j + 1)).map (R (h - (k + 1)))).sum = ((L.take j).map (R (h - (k + 1)))).sum + R (h - (k + 1)) xs) := by
                show _ = _
                rw [List.take_add_one, List.getElem?_eq_getElem hlj, List.map_append, List.sum_append, hxs, List.getElem?_eq_getElem hlj]
                simp
              rw [← hxs] at x0 x1 x2 x3 x4
              obtain ⟨fx, hfx⟩ : ∃ fx, fx = xs.testBit := ⟨_, rfl⟩
              rw [← hfx] at x0 x1 x2 x3 x4
              have HK := hide (show keyOf Tryd.prog 60 (.agg #[.bool (fx 0), .bool (fx 1), .bool (fx 2), .bool (fx 3), .bool (fx 4)]) = some (klit xs) by
                have := keyOf_s xs
                rwa [show cellsV xs = .agg (bitsF fx) by rw [hfx]] at this)
              have hFx := wt_at (F := F2) hx32
              have hFt := hstr2.out
              have hI2' := hI2.out
              have hs2' := hs2.out
              have h8 := eight (k := k + 1) (by omega)
              have hFj : F t * j ≤ F t * 8 := Nat.mul_le_mul_left _ (by omega)
              have hsmall : F2 xs + F t ≤ 65536 := by omega
              have hsum : IntKind.i64.wrap (((F2 xs : Nat) : Int) + ((F t : Nat) : Int)) = ((F2 xs : Nat) : Int) + ((F t : Nat) : Int) := IntWalk.i64_in _ (by omega)
              have hHs := hide hsum
              have hsm := hide hsmall
              have hnm : n2 < maxLen := by
                have a1 := hI3.out
                have a2 := hn2.out
                unfold maxLen
                omega
              have q0 := Box.new wq 60 (bitsF fun _ => false)
              obtain ⟨t0, f0', t1, f1, t2, f2, t3, f3, t4, f4, r0, r1, r2, r3, r4, hbx⟩ := end5 q0 fx
              have j0 : (0 : Int) ≤ (j : Int) := by omega
              have j1 : (j : Int) < (L.length : Int) := by omega
              have hwq : W.heap.size ≤ wq.heap.size := hb.size
              clear hFx hFt hI2' hs2' h8 hFj hsmall hsum hr hf3 hxs hfx hob
              go_wp2_with fail
              refine wp_region_noPanic (region13_w (fun _ _ _ _ _ h => h) (gw := wq.heap.size) (nb := nb) (n := n2) (c := F t) (y := F2 xs) (f := fx) (kl := klit xs) (D := D2) rfl rfl rfl rfl (Box.new wq 60 (bitsF fx)) (by omega) HK.out (map_below hN ((Below.refl _ _).alloc (Nat.le_refl _) _)) hv2.out.1 hnm (hv2.out.2.1 xs hx32) hHs.out hsm.out ?_)
              intro st w6 hN6 hg6
              refine NoPanic.normal ?_
              simp only [Act.put, List.setIfInBounds_toArray, List.set_cons_zero, List.set_cons_succ]
              go_wp2_with fail
              have ga : wq.grownBy (wq.alloc (.cells #[.bool (fx 0), .bool (fx 1), .bool (fx 2), .bool (fx 3), .bool (fx 4)] 60)) none := grown_none ((Below.refl _ _).alloc (Nat.le_refl _) _)
              have hrg6 := (hrg.kept ga (fun e => by cases e) (fun e => by cases e)).kept hg6 (fun e => by injection e with e; omega) (fun e => by injection e with e; omega)
              have own6 := (own.alloc (.cells #[.bool (fx 0), .bool (fx 1), .bool (fx 2), .bool (fx 3), .bool (fx 4)] 60)).kept hg6 (.inr (fun e => by simp only [Value.ownBlock, Option.some.injEq] at e; omega))
              have hb6 := (hb.alloc hwq (.cells #[.bool (fx 0), .bool (fx 1), .bool (fx 2), .bool (fx 3), .bool (fx 4)] 60)).grown hg6 (by simp; omega) (fun j hj => by injection hj with hj; omega)
              have y76 := (y7.alloc (.cells #[.bool (fx 0), .bool (fx 1), .bool (fx 2), .bool (fx 3), .bool (fx 4)] 60)).grown hg6 (by simp; omega)
              have y86 := (y8.alloc (.cells #[.bool (fx 0), .bool (fx 1), .bool (fx 2), .bool (fx 3), .bool (fx 4)] 60)).grown hg6 (by simp; omega)
              have bx6 := (bx.alloc (.cells #[.bool (fx 0), .bool (fx 1), .bool (fx 2), .bool (fx 3), .bool (fx 4)] 60)).grown hg6 (by simp; omega)
              rw [show ((F2 xs : Nat) : Int) + ((F t : Nat) : Int) = ((F2 xs + F t : Nat) : Int) by omega] at hN6
              have hv6 : Hid (ViewA (D2.put (klit xs) (.lit (.int .i64 ((F2 xs + F t : Nat) : Int)))) (fun s => if s = xs then F2 xs + F t else F2 s) (goodR w set (k + 1))) := hv2.out.put hx32 hxg _
              have g1 : Hid (n2 + 1 = nN + (j + 1)) := by
                have := hn2.out
                show _ = _
                omega
              have g2 : Hid (wt (fun s => if s = xs then F2 xs + F t else F2 s) (R (h - (k + 1))) = wt Fn (R (h - (k + 1))) + F t * ((L.take (j + 1)).map (R (h - (k + 1)))).sum) := by
                show _ = _
                rw [wt_put hx32, htake.out, hs1.out, Nat.mul_add, Nat.add_assoc]
              have g3 : Hid (wt (fun s => if s = xs then F2 xs + F t else F2 s) (fun _ => 1) = wt Fn (fun _ => 1) + F t * (j + 1)) := by
                show _ = _
                rw [wt_put hx32, hs2.out, Nat.mul_add, Nat.add_assoc]
              exact ⟨⟨j + 1, n2 + 1, _, _, hlj, by simp, hrg6, hN6, hv6, g1, g2, g3, own6, hb6, y76, y86, bx6⟩, by simp only [intOf]; omega⟩
            · obtain rfl : j = L.length := by omega
              have a1 := hs1.out
              rw [List.take_length, ← HST1.out] at a1
              have a2 := hstr1.out
              have a3 := hI1.out
              have b1 := hs2.out
              have b2 := hstr2.out
              have b3 := hI2.out
              have b4 : F t * L.length ≤ F t * 8 := Nat.mul_le_mul_left _ hL8
              have d1 := hn2.out
              have d2 := hI3.out
              have d3 := hlt1.out
              have E1 : Hid (wt F2 (R (h - (k + 1))) + wt (leftW F fun z => left z && !z.sameKey (klit t)) (R (h - k)) = T) := by show _ = _; omega
              have E2 : Hid (wt F2 (fun _ => 1) + 8 * wt (leftW F fun z => left z && !z.sameKey (klit t)) (fun _ => 1) ≤ 8 ^ (k + 1)) := by show _ ≤ _; omega
              have E3 : Hid (n2 + 8 * cnt1 ≤ 8 * nk) := by show _ ≤ _; omega
              clear a1 a2 a3 b1 b2 b3 b4 d1 d2 d3
              go_wp2
              exact ⟨⟨fun z => left z && !z.sameKey (klit t), cnt1, n2, D2, F2, hrg, hN, hv2, E1, E2, E3, hlD1, hb, y7, y8, bx⟩, by rw [hrg.left_eq, hmeas.out]; exact hlt1.out⟩
    · obtain rfl : k = h := by omega
      have HZ := hv.out.2.1 0 (by omega)
      go_wp2_with (first
        | (at_lookup; refine wpList_lookup_own_int _ rfl _ _ 61 rfl 60 3 .i64 mlawA Tryd.underlying61 Tryd.underlying3 (mzeroA _) b nk _ rfl hown _ _ rfl key_zero ?_; intro c0 hc0 hwc0
           obtain rfl : c0 = ((F 0 : Nat) : Int) := hv.out.val (by omega) hc0)
        | go_in)
      go_ret
      have e : F 0 = T := by
        have h1 := hwt.out
        rw [Nat.sub_self, show wt F (R 0) = wt F oneF from by unfold wt; exact sumN_congr 32 fun t _ => by rw [hR0.out t]; rfl] at h1
        rw [← h1]
        unfold wt
        rw [sumN_one 0 32 (by omega) (fun i _ hi => by unfold oneF; rw [if_neg hi, Nat.mul_zero])]
        simp [oneF]
      rw [← e]
      exact ⟨rfl, hb⟩
end Go.Proofs.YtnikgnicjbcbmabDoor

/-
  The program's TileByRows.
-/
namespace Go.Proofs.YtnikgnicjbcbmabDoor
open Go.RowKit
set_option linter.unusedVariables false

theorem tilesOf_none (bc br : Int) (A : Option Addr) (c : Nat) (hs : List Int) (W : World) (hr : Row W A (ints hs)) (hm : hs.length ≤ maxLen) (hn : ¬ Holes bc br hs) :
    Calls Tryd.prog 19 #[.int .i64 bc, .int .i64 br, .slice A hs.length c] W (Plain (.tuple #[boardV 0 0, .int .i64 0, .bool false]) W) := by
  by_cases hB : Brd bc br
  · exact tilesOf_no2 bc br A c hs W hr hm hB (fun h => hn ⟨hB, h⟩)
  · exact tilesOf_no1 bc br A c hs W hB
theorem asc_most {n : Nat} {l : List Int} (h : AscTo (n : Int) l l.length) : l.length ≤ n := by
  have := free_list l (asc_nodup h) (asc_mem h)
  omega

set_option maxHeartbeats 1000000 in
theorem implTileByRows_c (bc br : Int) (A : Option Addr) (c : Nat) (hs : List Int) (W : World) (hr : Row W A (ints hs)) (hm : hs.length ≤ maxLen) :
    Calls Tryd.prog 8 #[.int .i64 bc, .int .i64 br, .slice A hs.length c] W (Plain (.int .i64 (coversP bc br hs)) W) := by
  by_cases hH : Holes bc br hs
  · obtain ⟨⟨h1, h2, h3, h4⟩, ha⟩ := id hH
    obtain ⟨w, rfl⟩ := Int.eq_ofNat_of_zero_le (show 0 ≤ bc by omega)
    obtain ⟨h, rfl⟩ := Int.eq_ofNat_of_zero_le (show 0 ≤ br by omega)
    have hw : 1 ≤ w ∧ w ≤ 5 := ⟨by omega, by omega⟩
    have hh : 1 ≤ h ∧ h ≤ 5 := ⟨by omega, by omega⟩
    have h25 : w * h ≤ 25 := Nat.mul_le_mul hw.2 hh.2
    have ha' := ha
    rw [← Int.natCast_mul] at ha'
    have hX : coversP (w : Int) (h : Int) hs = ((rowsT w h (inL hs) h 0 : Nat) : Int) := by
      unfold coversP
      rw [if_pos hH, ← tile_rows hw]
      rfl
    have HT := hide (tilesOf_yes w h A c hs W hr hw hh ha (by have := asc_most ha'; omega))
    have hlt : setOf (w * h) hs < 33554432 := Nat.lt_of_lt_of_le (setOf_lt _ _) (Nat.pow_le_pow_right (n := 2) (by omega) h25)
    have HC := hide (fun w5 => coversByRows_c w h (setOf (w * h) hs) (inL hs) hw hh (fun i => setOf_bit (fun x hx => (asc_mem ha x hx).1) i) hlt w5)
    have bx0 := Box.new W 32 #[.int .i64 0, .int .i64 0]
    rw [hX]
    clear hX hH ha ha' hr h1 h2 h3 h4 hlt
    generalize rowsT w h (inL hs) h 0 = X at *
    generalize setOf (w * h) hs = S at *
    go_enter Tryd.func8, Tryd.ntmps8
    go_wp2_with fail
    refine HT.out.mono ?_
    rintro e w1 ⟨rfl, b1⟩
    go_wp2_with fail
    refine (HC.out _).mono ?_
    rintro e w2 ⟨rfl, b2⟩
    go_wp2_with fail
    go_ret
    exact ⟨rfl, below_then (b1.alloc b1.size _) (by have := b1.size; simp; omega) b2⟩
  · have HT := hide (tilesOf_none bc br A c hs W hr hm hH)
    have hX : coversP bc br hs = -1 := by unfold coversP; rw [if_neg hH]
    rw [hX]
    clear hX hH hr
    go_enter Tryd.func8, Tryd.ntmps8
    go_wp2_with fail
    refine HT.out.mono ?_
    rintro e w1 ⟨rfl, b1⟩
    go_wp2_with fail
    go_ret
    exact ⟨rfl, b1.alloc b1.size _⟩
end Go.Proofs.YtnikgnicjbcbmabDoor
