
/-
  Maps whose keys are rows of cells: their views; 'm[k] += c' at the operations of a region.
-/
import Derived.Test.YtnikgnicjbcbmaaDoorPTileJ
import Derived.Maps.RangeWalk
import Derived.Maps.OwnOps
import Derived.Maps.Views
import Derived.DeepKeys4
import Derived.WideKeyEntry
namespace Go.Proofs.YtnikgnicjbcbmaaDoor
open Go.RowKit Go.Maps
set_option linter.unusedVariables false
set_option maxRecDepth 100000

theorem coversOf_c (c b : Nat) (hc : c < 32) (hb : b < 32) (W : World) : Calls Tryd.prog 36 #[cellsV c, cellsV b] W (Owns 58 5 (waysP 6 c b).length (flatS (waysP 6 c b)) W) := coversOf_f b hb b.testBit rfl c hc c.testBit rfl W

theorem laidOutM : laidOutB Tryd.prog = true := by kernel_rfl
theorem rowRC : (58 : TypeId) < Tryd.prog.types.size := of_decide_eq_true (by kernel_rfl)
theorem wideRC : (match Tryd.prog.underlying 58 with | some (.array _ _) | some (.struct _) => true | _ => false) = true := by kernel_rfl
theorem klaw : WideMaps.KeyLaw Tryd.prog 58 := deep_law_laid laidOutM (m := 2) (by omega) rowRC (by kernel_rfl) wideRC
theorem mlawA : Keyed Tryd.prog 58 := Keyed.of_law klaw
theorem mzeroA (w : World) : (zeroValue 3).run Tryd.prog w = .ok (.int .i64 0) w := by kernel_rfl
noncomputable def klF (f : Nat → Bool) : Lit := (keyOf Tryd.prog 58 (.agg (bitsF f))).getD (.bool false)
theorem keyOf_some (a b c d e : Bool) : (keyOf Tryd.prog 58 (.agg #[.bool a, .bool b, .bool c, .bool d, .bool e])).isSome = true := by
  cases a <;> cases b <;> cases c <;> cases d <;> cases e <;> kernel_rfl
theorem keyOf_f (f : Nat → Bool) : keyOf Tryd.prog 58 (.agg (bitsF f)) = some (klF f) := by
  have h := keyOf_some (f 0) (f 1) (f 2) (f 3) (f 4)
  unfold klF
  cases e : keyOf Tryd.prog 58 (.agg (bitsF f)) with
  | some l => rfl
  | none =>
    exfalso
    have : keyOf Tryd.prog 58 (.agg (bitsF f)) = none := e
    rw [show (Value.agg #[.bool (f 0), .bool (f 1), .bool (f 2), .bool (f 3), .bool (f 4)]) = .agg (bitsF f) from rfl, this] at h
    cases h
noncomputable def klit (s : Nat) : Lit := klF s.testBit
theorem keyOf_s (s : Nat) : keyOf Tryd.prog 58 (cellsV s) = some (klit s) := keyOf_f s.testBit
theorem bits_inj {f g : Nat → Bool} (h : bitsF f = bitsF g) : ∀ i, i < 5 → f i = g i := fun i hi => by
  have h1 := bitsF_at f hi
  rw [h, bitsF_at g hi] at h1
  injection h1 with h1
  injection h1 with h1
  exact h1.symm
theorem set_inj {s t : Nat} (hs : s < 32) (ht : t < 32) (h : ∀ i, i < 5 → s.testBit i = t.testBit i) : s = t := Nat.eq_of_testBit_eq fun i => by
  by_cases hi : i < 5
  · exact h i hi
  · have hp : 2 ^ 5 ≤ 2 ^ i := Nat.pow_le_pow_right (by omega) (by omega)
    rw [Nat.testBit_lt_two_pow (by omega), Nat.testBit_lt_two_pow (by omega)]
theorem klit_inj {s t : Nat} (hs : s < 32) (ht : t < 32) (h : klit s = klit t) : s = t := by
  have h1 := keyOf_s s
  rw [h] at h1
  have h2 := mlawA.inj h1 (keyOf_s t)
  injection h2 with h2
  exact set_inj hs ht (bits_inj h2)
theorem klit_ne {s t : Nat} (hs : s < 32) (ht : t < 32) (h : s ≠ t) : klit s ≠ klit t := fun e => h (klit_inj hs ht e)
theorem klit_key (s : Nat) : WideAt.IsKeyLit (klit s) := mlawA.key (keyOf_s s)

abbrev OwnsA (w : World) (b n : Nat) (D : DataW Unit) : Prop := w.ownsMap Tryd.prog 58 (plainElem Tryd.prog 3) b n D
/-- What the map reads as: the count of each of the 32 sets; its keys are among those that are good. -/
def ViewA (D : DataW Unit) (F : Nat → Nat) (good : Nat → Prop) : Prop :=
  IsMap D ∧ (∀ t : Nat, t < 32 → D.atKey (klit t) (.lit (.int .i64 0)) = .lit (.int .i64 ((F t : Nat) : Int))) ∧ (∀ kl, Maps.has D kl = true → ∃ t : Nat, t < 32 ∧ good t ∧ kl = klit t)
theorem ViewA.congr {D : DataW Unit} {F F' : Nat → Nat} {good : Nat → Prop} (h : ViewA D F good) (he : ∀ t, t < 32 → F t = F' t) : ViewA D F' good :=
  ⟨h.1, fun t ht => by rw [h.2.1 t ht, he t ht], h.2.2⟩
theorem ViewA.empty (good : Nat → Prop) : ViewA (.map []) (fun _ => 0) good := ⟨isMap_empty, fun t _ => rfl, fun kl h => by cases h⟩
theorem ViewA.put {D : DataW Unit} {F : Nat → Nat} {good : Nat → Prop} (h : ViewA D F good) {x : Nat} (hx : x < 32) (hp : good x) (y : Nat) :
    ViewA (D.put (klit x) (.lit (.int .i64 (y : Int)))) (fun t => if t = x then y else F t) good := by
  obtain ⟨h1, h2, h3⟩ := h
  refine ⟨h1.put _ _, fun t ht => ?_, fun kl hk => ?_⟩
  · by_cases e : t = x
    · subst e
      rw [atKey_put_same h1 (k := klit t) (klit_key t)]
      simp
    · rw [atKey_put_other (klit_ne ht hx e), h2 t ht]
      simp [e]
  · by_cases e : kl = klit x
    · exact ⟨x, hx, hp, e⟩
    · rw [has_put_other e] at hk
      exact h3 kl hk
theorem ViewA.val {D : DataW Unit} {F : Nat → Nat} {good : Nat → Prop} (h : ViewA D F good) {t : Nat} (ht : t < 32) {c : Int} (hc : D.atKey (klit t) (.lit (.int .i64 0)) = .lit (.int .i64 c)) : c = ((F t : Nat) : Int) := by
  rw [h.2.1 t ht] at hc
  injection hc with hc
  injection hc with _ hc
  exact hc.symm
theorem ViewA.none {D : DataW Unit} {F : Nat → Nat} {good : Nat → Prop} (h : ViewA D F good) {t : Nat} (ht : t < 32) (hn : Maps.has D (klit t) = false) : F t = 0 := by
  have := h.2.1 t ht
  rw [atKey_of_not_has hn] at this
  injection this with this
  injection this with _ this
  omega
theorem sizeA_le {w : World} {b n : Nat} {D : DataW Unit} (h : OwnsA w b n D) : Maps.size D ≤ n := by
  obtain ⟨es, clock, _, _, hs, rfl⟩ := h
  simp only [Maps.size, length_sorted, List.length_map, Array.length_toList]
  exact hs
/-- A weighted sum over the 32 sets. -/
def wt (F R : Nat → Nat) : Nat := sumN (fun t => F t * R t) 32
theorem wt_congr {F F' R : Nat → Nat} (h : ∀ t, t < 32 → F t = F' t) : wt F R = wt F' R := sumN_congr 32 fun t ht => by rw [h t ht]
theorem wt_zero (R : Nat → Nat) : wt (fun _ => 0) R = 0 := by
  unfold wt
  rw [sumN_congr 32 (g := fun _ => 0) (fun t _ => by simp), sumN_zero]
theorem wt_put {F : Nat → Nat} {x : Nat} (hx : x < 32) (c : Nat) (R : Nat → Nat) : wt (fun t => if t = x then F x + c else F t) R = wt F R + c * R x := by
  unfold wt
  rw [sumN_congr 32 (g := fun t => F t * R t + (if t = x then c * R x else 0)) (fun t _ => by
    by_cases e : t = x
    · subst e; simp [Nat.add_mul]
    · simp [e]), sumN_add, sumN_one (f := fun t => if t = x then c * R x else 0) x 32 hx (fun i _ hi => by simp [hi])]
  simp
theorem wt_at {F : Nat → Nat} {x : Nat} (hx : x < 32) : F x ≤ wt F fun _ => 1 := by
  unfold wt
  rw [sumN_out _ x 32 hx]
  simp
/-- The counts of those that are still to come. -/
noncomputable def leftW (F : Nat → Nat) (left : Lit → Bool) (t : Nat) : Nat := if left (klit t) then F t else 0
theorem leftW_strike {F : Nat → Nat} {left : Lit → Bool} {x : Nat} (hx : x < 32) (hl : left (klit x) = true) (R : Nat → Nat) :
    wt (leftW F left) R = wt (leftW F (fun z => left z && !z.sameKey (klit x))) R + F x * R x := by
  have h : ∀ t, t < 32 → leftW F left t = (if t = x then leftW F (fun z => left z && !z.sameKey (klit x)) x + F x else leftW F (fun z => left z && !z.sameKey (klit x)) t) := fun t ht => by
    by_cases e : t = x
    · subst e
      have : (klit t).sameKey (klit t) = true := by obtain ⟨b, e⟩ := klaw.str (keyOf_s t); rw [e]; simp [Lit.sameKey]
      simp [leftW, this, hl]
    · rw [if_neg e]
      simp only [leftW, sameKey_ne (klit_ne ht hx e)]
      simp
  rw [wt_congr h, wt_put hx]

/-! ### 'm[k] += c' at the operations of a region -/
theorem step_lookup {P : Program} {ops : Array Oper} {o : Oper} {a : Act} {w : World} {K : Act → World → Prop} {Q : Exit → Act → World → Prop} {E : Prop} (hgd : o.guard = none) (m x : Operand) (t : TypeId) (hop : o.op = Op.lookup t m x false)
    (k e : TypeId) (q : IntKind) (KK : Keyed P k) (ht : P.underlying t = some (.map k e)) (he : P.underlying e = some (.int q)) (hz : (zeroValue e).run P w = .ok (.int q 0) w) (b n : Nat) (D : DataW Unit)
    (hm : a.eval m = .map (some b)) (hown : w.ownsMap P k (plainElem P e) b n D) (key : Value) (kl : Lit) (hx : a.eval x = key) (hkey : keyOf P k key = some kl) (v : Int) (hv : D.atKey kl (.lit (.int q 0)) = .lit (.int q v))
    (h : K (a.put o.dst (.int q v)) w) : if Region.wanted o (yielded ops a.tmps) = true then Oper.wp P o a w K Q else E := by
  have hw : Region.wanted o (yielded ops a.tmps) = true := by simp [Region.wanted, hgd]
  rw [if_pos hw]
  obtain ⟨c, hrun, hat, hwc⟩ := hown.lookup_int KK ht he hz hkey
  rw [hv] at hat
  injection hat with hat
  injection hat with _ hat
  subst hat
  unfold Oper.wp
  simp [execOp, hop, hm, hx, hrun, Result.andThen]
  exact h
/-- What an entry that was taken lets be stored. -/
def Stores (P : Program) (k e t : TypeId) (b n : Nat) (D : DataW Unit) (kl : Lit) (w1 : World) (st : Nat) : Prop :=
  ∀ (w2 : World) (val : Value) (d : DataW Unit) (ps : List MemPlace), w2.heap[b]? = w1.heap[b]? → plainElem P e val = some (d, ps) →
    ∃ w3, (Instr.entryStore t (.map (some b)) (goInt st) val).run P w2 = .ok () w3 ∧ w3.ownsMap P k (plainElem P e) b (n + 1) (D.put kl d) ∧ w2.grownBy w3 (some b)
theorem step_entry {P : Program} {ops : Array Oper} {o : Oper} {a : Act} {w : World} {K : Act → World → Prop} {Q : Exit → Act → World → Prop} {E : Prop} (hgd : o.guard = none) (m x : Operand) (t : TypeId) (hop : o.op = Op.mapEntry t m x)
    (k e : TypeId) (q : IntKind) (KL : WideMaps.KeyLaw P k) (ht : P.underlying t = some (.map k e)) (he : P.underlying e = some (.int q)) (hz : ∀ u : World, (zeroValue e).run P u = .ok (.int q 0) u) (b n : Nat) (D : DataW Unit)
    (hm : a.eval m = .map (some b)) (hown : w.ownsMap P k (plainElem P e) b n D) (hn : n < maxLen) (key : Value) (kl : Lit) (hx : a.eval x = key) (hkey : keyOf P k key = some kl)
    (h : ∀ (v0 : Value) (st : Nat) (w1 : World), Stores P k e t b n D kl w1 st → w.grownBy w1 (some b) → K (a.put o.dst (.tuple #[v0, goInt st])) w1) : if Region.wanted o (yielded ops a.tmps) = true then Oper.wp P o a w K Q else E := by
  have hw : Region.wanted o (yielded ops a.tmps) = true := by simp [Region.wanted, hgd]
  rw [if_pos hw]
  have hown0 := hown
  obtain ⟨es, clock, hb, F, hs, rfl⟩ := hown
  obtain ⟨v0, st, es1, clock1, hrun, _, hst⟩ := WideElems.entry_then_store KL ht hz hb F hkey
  unfold Oper.wp
  simp [execOp, hop, hm, hx, hrun, Result.andThen]
  refine h v0 st _ (fun w2 val d ps hw2 hval => ?_) ⟨rfl, rfl, rfl, by simp [ChangeMaps.setBlock], fun i _ hi => ChangeMaps.heap_setBlock_other hb _ (fun e => hi (by rw [e]))⟩
  have hw2' : w2.heap[b]? = some (.map es1 clock1) := hw2.trans (ChangeMaps.heap_setBlock_same hb _)
  obtain ⟨es', clock', hrun2, hrun3⟩ := hst w2 val hw2'
  obtain ⟨w', hrun4, hown4, _⟩ := hown0.update (Keyed.of_law KL) ht hn hkey hval
  have he' : w' = ChangeMaps.setBlock w b (.map es' clock') := by
    have := hrun4.symm.trans hrun3
    injection this
  subst he'
  obtain ⟨es5, clock5, hb5, F5, hs5, hD5⟩ := hown4
  have := hb5.symm.trans (ChangeMaps.heap_setBlock_same hb _)
  injection this with this
  injection this with e1 e2
  subst e1 e2
  exact ⟨_, hrun2, ⟨es5, clock5, ChangeMaps.heap_setBlock_same hw2' _, F5, hs5, hD5⟩, ⟨rfl, rfl, rfl, by simp [ChangeMaps.setBlock], fun i _ hi => ChangeMaps.heap_setBlock_other hw2' _ (fun e => hi (by rw [e]))⟩⟩
theorem step_estore {P : Program} {ops : Array Oper} {o : Oper} {a : Act} {w : World} {K : Act → World → Prop} {Q : Exit → Act → World → Prop} {E : Prop} (hgd : o.guard = none) (m s x : Operand) (t : TypeId) (hop : o.op = Op.entryStore t m s x)
    (k e : TypeId) (b n st : Nat) (D : DataW Unit) (kl : Lit) (w1 : World) (HS : Stores P k e t b n D kl w1 st) (hw1 : w.heap[b]? = w1.heap[b]?) (hm : a.eval m = .map (some b)) (hs : a.eval s = goInt st) (val : Value) (hx : a.eval x = val)
    (d : DataW Unit) (ps : List MemPlace) (hval : plainElem P e val = some (d, ps))
    (h : ∀ w3, w3.ownsMap P k (plainElem P e) b (n + 1) (D.put kl d) → w.grownBy w3 (some b) → K (a.put o.dst undef) w3) : if Region.wanted o (yielded ops a.tmps) = true then Oper.wp P o a w K Q else E := by
  have hw : Region.wanted o (yielded ops a.tmps) = true := by simp [Region.wanted, hgd]
  rw [if_pos hw]
  obtain ⟨w3, hrun, r1, r2⟩ := HS w val d ps hw1 hval
  unfold Oper.wp
  simp [execOp, hop, hm, hs, hx, hrun, Result.andThen]
  exact h w3 r1 r2
end Go.Proofs.YtnikgnicjbcbmaaDoor
