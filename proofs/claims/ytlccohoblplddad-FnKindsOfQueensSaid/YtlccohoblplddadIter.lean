
/-
  A range over an iterator that hands out rows of numbers which it has laid itself: what it offers, what a round keeps, and the law of the loop. Own work; nothing of a program.
  The consumer's own blocks are a ghost set S that goes along with its invariant; the iterator's blocks are not in it, and no row that is handed out is.
-/
import Derived.Test.YtlccohoblplddadBase
import Derived.RangeFuncNested
import Derived.RangeFuncBound
import Derived.RangeFuncCalls
import Derived.RangeFuncLeaves
namespace Go.Proofs.Ytlccohoblplddad
open Go.RowKit
set_option linter.unusedVariables false

abbrev Blocks := Nat → Prop
abbrev Iv := List (List Int) → Blocks → World → Prop
/-- Cells that are not the consumer's, nor excepted, are kept, and what is no cells, from block B on. -/
structure Keep (E : Blocks) (B : Nat) (S : Blocks) (W : World) (S' : Blocks) (W' : World) : Prop where
  size : W.heap.size ≤ W'.heap.size
  cells : ∀ (g : Nat) (o : Obj), W.heap[g]? = some o → o.isCells = true → ¬ S g → ¬ E g → W'.heap[g]? = some o ∧ ¬ S' g
  others : ∀ (g : Nat) (o : Obj), B ≤ g → W.heap[g]? = some o → o.isCells = false → W'.heap[g]? = some o
section
variable {E E' : Blocks} {B B' : Nat} {S S' S'' : Blocks} {W W' W'' : World}
theorem Keep.refl (E : Blocks) (B : Nat) (S : Blocks) (W : World) : Keep E B S W S W := ⟨Nat.le_refl _, fun _ _ h _ c _ => ⟨h, c⟩, fun _ _ _ h _ => h⟩
theorem Keep.mono (h : Keep E B S W S' W') (hb : B ≤ B') (he : ∀ g, E g → E' g) : Keep E' B' S W S' W' := ⟨h.size, fun g o hg hc hs hn => h.cells g o hg hc hs (fun x => hn (he g x)), fun g o hg => h.others g o (Nat.le_trans hb hg)⟩
theorem Keep.trans (h : Keep E B S W S' W') (k : Keep E B S' W' S'' W'') : Keep E B S W S'' W'' :=
  ⟨Nat.le_trans h.size k.size, fun g o hg hc hn he => by
    obtain ⟨h1, h2⟩ := h.cells g o hg hc hn he
    exact k.cells g o h1 hc h2 he, fun g o hB hg hc => k.others g o hB (h.others g o hB hg hc) hc⟩
/-- A step that turns at most a block that is no cells. -/
theorem Keep.turn {row : Option Nat} (hg : W.grownBy W' row) (hr : ∀ r, row = some r → r < B ∧ ∃ o : Obj, W.heap[r]? = some o ∧ o.isCells = false) : Keep E B S W S W' :=
  ⟨hg.size, fun g o ho hc hn _ => ⟨(hg.block g (Array.getElem?_eq_some_iff.1 ho).1 (fun e => by
      obtain ⟨_, o', ho', hc'⟩ := hr g e.symm
      rw [ho] at ho'; cases ho'; rw [hc] at hc'; cases hc')).trans ho, hn⟩,
    fun g o hB ho hc => (hg.block g (Array.getElem?_eq_some_iff.1 ho).1 (fun e => by have := (hr g e.symm).1; omega)).trans ho⟩
theorem Keep.grow (hg : W.grownBy W' none) : Keep E B S W S W' := Keep.turn hg (fun r e => by cases e)
theorem grown_below (h : Below W.heap.size W W') : W.grownBy W' none := ⟨h.os, h.tape, h.output, h.size, fun k hk _ => h.block k hk⟩
theorem cells_at {a : Addr} {v : Value} (h : W.cell? a = some v) : ∃ o : Obj, W.heap[a.block]? = some o ∧ o.isCells = true := cells_of_cell h
end

/-- A row, a box, a row of its own: none of them the consumer's. -/
def RowC (S : Blocks) (W : World) (A : Option Addr) (cs : List Value) : Prop := Row W A cs ∧ (cs ≠ [] → ∀ ad, A = some ad → ¬ S ad.block)
def BoxC (S : Blocks) (W : World) (b : Nat) (t : TypeId) (v : Value) : Prop := Boxed W b t v ∧ ¬ S b
def Mine (D : Nat) (S : Blocks) (W : World) (v : Value) (x : List Int) : Prop := W.ownsRow D 3 1 v x.length (ints x) ∧ ∀ g, v.ownBlock = some g → ¬ S g
section
variable {E : Blocks} {B D : Nat} {S S' : Blocks} {W W' : World}
theorem RowC.keep {A : Option Addr} {cs : List Value} (h : RowC S W A cs) (k : Keep E B S W S' W') (hE : ∀ ad, A = some ad → cs ≠ [] → ¬ E ad.block) : RowC S' W' A cs := by
  refine ⟨fun j hj => ?_, fun hne ad e => ?_⟩
  · obtain ⟨ad, e, hc⟩ := h.1 j hj
    obtain ⟨o, ho, hco⟩ := cells_at hc
    have hne : cs ≠ [] := by rintro rfl; simp at hj
    rw [addr_block] at ho
    have := (k.cells _ o ho hco (h.2 hne ad e) (hE ad e hne)).1
    exact ⟨ad, e, (World.cell?_of_block (by rw [addr_block, this, ho])).trans hc⟩
  · subst e
    obtain ⟨ad', e', hc⟩ := h.1 0 (List.length_pos_iff.2 hne)
    injection e' with e'
    subst e'
    obtain ⟨o, ho, hco⟩ := cells_at hc
    rw [addr_block] at ho
    exact (k.cells _ o ho hco (h.2 hne _ rfl) (hE _ rfl hne)).2
theorem RowC.lt {A : Option Addr} {cs : List Value} (h : RowC S W A cs) (hne : cs ≠ []) : ∀ ad, A = some ad → ad.block < W.heap.size := fun ad e => by
  subst e
  obtain ⟨ad', e', hc⟩ := h.1 0 (List.length_pos_iff.2 hne)
  injection e' with e'
  subst e'
  have := World.block_lt_of_cell? _ _ hc
  rwa [addr_block] at this
theorem BoxC.keep {b : Nat} {t : TypeId} {v : Value} (h : BoxC S W b t v) (k : Keep E B S W S' W') (hE : ¬ E b) : BoxC S' W' b t v := k.cells b _ h.1 rfl h.2 hE
theorem BoxC.lt {b : Nat} {t : TypeId} {v : Value} (h : BoxC S W b t v) : b < W.heap.size := h.1.lt
theorem Mine.keep {v : Value} {x : List Int} (h : Mine D S W v x) (k : Keep E B S W S' W') (hE : ∀ g, v.ownBlock = some g → ¬ E g) : Mine D S' W' v x := by
  obtain ⟨⟨hl, ho⟩, hs⟩ := h
  rcases ho with ⟨rfl, h0⟩ | ⟨g, cap, cur, rfl, hb, hg, rest⟩
  · exact ⟨⟨hl, .inl ⟨rfl, h0⟩⟩, fun g e => by cases e⟩
  · obtain ⟨h1, h2⟩ := k.cells g _ hg rfl (hs g rfl) (hE g rfl)
    exact ⟨⟨hl, .inr ⟨g, cap, cur, rfl, hb, h1, rest⟩⟩, fun g' e => by injection e with e; subst e; exact h2⟩
theorem Mine.lt {v : Value} {x : List Int} (h : Mine D S W v x) : ∀ g, v.ownBlock = some g → D ≤ g ∧ g < W.heap.size := fun g e => h.1.lt g e
theorem Mine.mono {D' : Nat} {v : Value} {x : List Int} (h : Mine D S W v x) (hd : D' ≤ D) : Mine D' S W v x := by
  obtain ⟨⟨hl, ho⟩, hs⟩ := h
  rcases ho with ⟨rfl, h0⟩ | ⟨g, cap, cur, rfl, hb, rest⟩
  · exact ⟨⟨hl, .inl ⟨rfl, h0⟩⟩, hs⟩
  · exact ⟨⟨hl, .inr ⟨g, cap, cur, rfl, Nat.le_trans hd hb, rest⟩⟩, hs⟩
theorem Mine.slice {v : Value} {x : List Int} (h : Mine D S W v x) : ∃ A c, v = .slice A x.length c := by
  obtain ⟨A, c, e, _⟩ := own_row h.1
  exact ⟨A, c, e⟩
end

theorem yield_any {m : Nat} (m' : Nat) {P : Program} {l : Nat} {args : Array Value} {W : World} {R : Ending → World → Prop} (h : YieldAt Fence.wide m P l args W R) : YieldAt Fence.wide m' P l args W R := by
  obtain ⟨fn, tmps, assign, body, hy, h1, h2⟩ := h
  exact ⟨fn, tmps, assign, body, hy, h1, fun c cs _ => h2 c cs (fun d h => by cases h)⟩

/-- The invariant abides what turns no cells, from block B on. -/
abbrev Abide (B : Nat) (I : Iv) : Prop := OwnFrom B (fun (s : List (List Int) × Blocks) X => I s.1 s.2 X)
/-- WHAT AN ITERATOR OFFERS: called at the yield of whatever loop, it hands out the rows of L, one by one, as slices of its own that are not the consumer's, and returns. G: its own blocks at the start. -/
def Offers (P : Program) (g : Nat) (lb : Array Value) (D : Nat) (L : List (List Int)) (G : Blocks) (w : World) : Prop :=
  ∀ (l : Nat) (J : Iv) (S0 : Blocks) (W : World), Below w.heap.size w W → Abide W.heap.size J →
    (∀ pre S X, J pre S X → ∀ g, S g → g < X.heap.size) → (∀ g, G g → ¬ S0 g) →
    (∀ (m : Nat) (pre : List (List Int)) (S : Blocks) (x : List Int) (A : Option Addr) (c : Nat) (X : World), J pre S X → Mine D S X (.slice A x.length c) x → pre ++ [x] <+: L →
      YieldAt Fence.wide m P l #[.slice A x.length c] X fun e X' => e = .returned (.bool true) ∧ ∃ S', J (pre ++ [x]) S' X' ∧ Keep (fun g => (Value.slice A x.length c).ownBlock = some g) W.heap.size S X S' X') →
    J [] S0 W →
    Calls P g (#[.func (.yield l) #[] #[]] ++ lb) W fun e W' => (∃ v, e = .returned v) ∧ ∃ S', J L S' W'

/-- How a round of the loop ends: off its end. -/
def onPost (E : Blocks) (B : Nat) (I : Iv) (xs : List (List Int)) (S : Blocks) (W : World) : Exit → Act → World → Prop
  | .normal, _, W' => ∃ S', Keep E B S W S' W' ∧ I xs S' W'
  | _, _, _ => False

variable {n : Nat} {P : Program}
set_option maxHeartbeats 1000000 in
/-- THE LOOP OVER SUCH AN ITERATOR, whose rounds never leave it. -/
theorem range_offers {g : Operand} {ps : Array Tmp} {assign body : Code} {Q : Exit → Act → World → Prop} {a : Act} {w : World}
    {gf : Nat} {lb : Array Value} (hg : a.eval g = .func (.func gf) #[] lb) (eg : ∀ args w, (callFunc gf args).run P w = .ok (.enter gf args) w)
    {D : Nat} {L : List (List Int)} {G : Blocks} (hseq : Offers P gf lb D L G w) (hps : ps.size = 1)
    (I : Iv) (S0 : Blocks) (hI : Abide w.heap.size I) (hIb : ∀ pre S W, I pre S W → ∀ g, S g → g < W.heap.size) (hG : ∀ g, G g → ¬ S0 g) (h0 : I [] S0 w) (a₁ : Value → Act)
    (hassign : ∀ (l : Nat) (v : Value) (W : World) (K : Act → World → Prop), K (a₁ v) W →
      assign.wpIn (Fence.wide.inRound l) n P (Exit.then K (fun _ _ _ => False)) { tmps := (ps.zip #[v]).foldl (fun t (p, v) => t.setIfInBounds p v) a.tmps, defers := [] } W)
    (hbody : ∀ (l : Nat) (pre : List (List Int)) (S : Blocks) (x : List Int) (A : Option Addr) (c : Nat) (W : World), w.heap.size ≤ W.heap.size → I pre S W → Mine D S W (.slice A x.length c) x → pre ++ [x] <+: L →
      body.wpIn (Fence.wide.inRound l) n P (onPost (fun g => (Value.slice A x.length c).ownBlock = some g) w.heap.size I (pre ++ [x]) S W) (a₁ (.slice A x.length c)) W)
    (hdone : ∀ (D' : Nat) (S : Blocks) (W : World), w.heap.size ≤ D' → I L S W → W.heap[D']? = some (.deferred (some [])) → Q .normal { a with defers := { target := .collected D', args := #[] } :: a.defers } W) :
    (Code.rangeFunc g ps assign body).wpIn Fence.wide n P Q a w := by
  refine wpIn_rangeFunc fun fn hfn => ?_
  show ∃ (l : Nat) (mark : List Deferred) (w₁ : World) (d : Deferred) (w₁' : World) (f : FuncId) (args : Array Value) (w₂ : World), (Instr.enterLoop fn a.tmps ps assign body none).run P w = .ok (l, mark) w₁ ∧ _
  obtain ⟨rec, hrec⟩ : ∃ rec : LoopState → Loop, rec = fun st => { state := st, pending := none, fn, tmps := a.tmps, params := ps, assign, body, defers := w.heap.size } := ⟨_, rfl⟩
  have hlay : ∀ u : World, u = (w.alloc (.deferred (some []))).alloc (.loop (rec .ready)) → u.heap[w.heap.size + 1]? = some (.loop (rec .ready)) ∧ u.heap[w.heap.size]? = some (.deferred (some [])) ∧ Below w.heap.size w u ∧ u.heap.size = w.heap.size + 2 := fun u hu => by
    subst hu
    refine ⟨?_, (Below.heap_alloc _ _ _ (by simp)).trans (World.alloc_heap_new w _), ((Below.refl _ w).alloc (Nat.le_refl _) _).alloc (by simp) _, by simp⟩
    have := World.alloc_heap_new (w.alloc (.deferred (some []))) (.loop (rec .ready))
    rwa [World.size_alloc] at this
  obtain ⟨w1, hw1⟩ : ∃ u, u = (w.alloc (.deferred (some []))).alloc (.loop (rec .ready)) := ⟨_, rfl⟩
  obtain ⟨L1, D1, B1, z1⟩ := hlay w1 hw1
  have I1 : I [] S0 w1 := by
    have i1 := OwnFrom.alloc hI (s := ([], S0)) (.deferred (some [])) h0
    have i2 := OwnFrom.alloc hI (s := ([], S0)) (.loop (rec .ready)) i1
    rw [hw1]; exact i2
  refine ⟨w.heap.size + 1, [{ target := .collected w.heap.size, args := #[] }], w1, { target := .fn (.func gf) lb, args := #[.func (.yield (w.heap.size + 1)) #[] #[]] }, w1, gf, #[.func (.yield (w.heap.size + 1)) #[] #[]] ++ lb, w1, ?_, ?_, fun f' _ => trivial, ?_, fun h => (by cases h), ?_⟩
  rotate_left 2
  · simp [invoke, go_sem, eg]
  rotate_left 1
  · rw [hw1, hrec]; exact run_enterLoop_outer _ _ _ _ _
  · simp only [resolve, hg]
    simp [go_sem]
  refine callsIn_wide.2 ((hseq (w.heap.size + 1) (fun pre S W => I pre S W ∧ W.heap[w.heap.size + 1]? = some (.loop (rec .ready)) ∧ W.heap[w.heap.size]? = some (.deferred (some []))) S0 w1 B1 ?_ (fun pre S W h => hIb pre S W h.1) hG ?_ ⟨I1, L1, D1⟩).mono ?_)
  · rintro s X Y row ⟨hi, hl, hd⟩ hgr hr
    have hne : ∀ k, k < w1.heap.size → some k ≠ row := fun k hk e => by have := (hr k e.symm).1; omega
    exact ⟨hI s X Y row hi hgr (fun r e => ⟨by have := (hr r e).1; omega, (hr r e).2⟩), (hgr.block _ (Array.getElem?_eq_some_iff.1 hl).1 (hne _ (by omega))).trans hl, (hgr.block _ (Array.getElem?_eq_some_iff.1 hd).1 (hne _ (by omega))).trans hd⟩
  · rintro m pre S x A c W ⟨hi, hl, hd⟩ hrow hpre
    have hlt : w.heap.size + 1 < W.heap.size := (Array.getElem?_eq_some_iff.1 hl).1
    have hy := run_yield (P := P) (args := #[.slice A x.length c]) hl (by rw [hrec]; exact hps.symm)
    rw [hrec] at hy
    have hbg := run_beginRound (P := P) hl (by rw [hrec])
    -- the round begins: the record is busy
    have t1 := grownBy_putObj' W (w.heap.size + 1) (.loop { rec .ready with state := .busy })
    have hl2 : (W.putObj (w.heap.size + 1) (.loop { rec .ready with state := .busy })).heap[w.heap.size + 1]? = some (.loop { rec .ready with state := .busy }) := World.putObj_heap_same hlt
    have hd2 : (W.putObj (w.heap.size + 1) (.loop { rec .ready with state := .busy })).heap[w.heap.size]? = some (.deferred (some [])) := (World.putObj_heap_other (by omega)).trans hd
    have k1 : ∀ E : Blocks, Keep E w1.heap.size S W S (W.putObj (w.heap.size + 1) (.loop { rec .ready with state := .busy })) := fun E => Keep.turn t1 (fun r e => by cases e; exact ⟨by omega, _, hl, rfl⟩)
    have i2 := OwnFrom.putObj hI (s := (pre, S)) (.loop { rec .ready with state := .busy }) hi (by omega) hl rfl
    have r2 : Mine D S (W.putObj (w.heap.size + 1) (.loop { rec .ready with state := .busy })) (.slice A x.length c) x := hrow.keep (k1 (fun _ => False)) (fun _ _ h => h)
    have z2 : w.heap.size ≤ (W.putObj (w.heap.size + 1) (.loop { rec .ready with state := .busy })).heap.size := by rw [World.putObj_size]; omega
    generalize W.putObj (w.heap.size + 1) (.loop { rec .ready with state := .busy }) = W2 at *
    refine yield_any (m := n) m ⟨fn, _, assign, body, hy, roundIn_of_wpIn (n := n) hfn (hassign _ _ W _ ⟨W2, hbg, ?_⟩)⟩
    refine wpIn_mono (hbody _ pre S x A c W2 z2 i2 r2 hpre) ?_
    rintro e a3 W3 hp
    cases e with
    | normal =>
      obtain ⟨S', k2, i3⟩ := hp
      have hl3 := k2.others _ _ (by omega) hl2 rfl
      have hd3 := k2.others _ _ (Nat.le_refl _) hd2 rfl
      have he := run_endRound (P := P) none hl3
      have t3 := grownBy_putObj' W3 (w.heap.size + 1) (.loop (rec .ready))
      have hlt3 : w.heap.size + 1 < W3.heap.size := (Array.getElem?_eq_some_iff.1 hl3).1
      have k3 : ∀ E : Blocks, Keep E w1.heap.size S' W3 S' (W3.putObj (w.heap.size + 1) (.loop (rec .ready))) := fun E => Keep.turn t3 (fun r e => by cases e; exact ⟨by omega, _, hl3, rfl⟩)
      refine ⟨_, _, he, rfl, S', ⟨?_, ?_, ?_⟩, ?_⟩
      · exact OwnFrom.putObj hI (s := (pre ++ [x], S')) _ i3 (by omega) hl3 rfl
      · rw [World.putObj_heap_same hlt3, hrec]; rfl
      · rw [World.putObj_heap_other (by omega)]; exact hd3
      · have k4 := ((k1 _).trans (k2.mono (by omega) (fun _ h => h))).trans (k3 _)
        subst hrec
        exact k4
    | ret => exact hp.elim
    | exit id => exact hp.elim
    | goto t => exact hp.elim
    | panic ch => exact hp.elim
    | outgrown => exact hp.elim
  · rintro e W2 ⟨⟨v, rfl⟩, S', hi, hl, hd⟩
    have he := run_endLoop (P := P) hl (by rw [hrec]; simp)
    rw [hrec] at he
    exact ⟨none, _, he, hdone _ S' _ (Nat.le_refl _) (OwnFrom.putObj hI (s := (L, S')) _ hi (by omega) hl rfl) ((World.putObj_heap_other (by omega)).trans hd)⟩
end Go.Proofs.Ytlccohoblplddad
