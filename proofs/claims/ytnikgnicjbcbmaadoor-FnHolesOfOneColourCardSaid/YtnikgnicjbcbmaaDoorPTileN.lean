
/-
  coversByRows, its fifth region: two calls, two new arrays, two stores, in whatever order. (Written by wip/tools/genr5.py.)
-/
import Derived.Test.YtnikgnicjbcbmaaDoorPTileM
import Derived.Deep.RegionHeld3
namespace Go.Proofs.YtnikgnicjbcbmaaDoor
open Go.RowKit Go.Maps
set_option linter.unusedVariables false

theorem act_size (a : Act) (d : Option Tmp) (v : Value) : (a.put d v).tmps.size = a.tmps.size := by
  cases d <;> simp [Act.put]
theorem act_self {a : Act} {d : Tmp} (h : d < a.tmps.size) (v : Value) : (a.put (some d) v).eval (.tmp d) = v := by
  simp [Act.put, Act.eval, Array.getD, h]
theorem act_ne (a : Act) {d j : Tmp} (h : d ≠ j) (v : Value) : (a.put (some d) v).eval (.tmp j) = a.eval (.tmp j) := by
  simp only [Act.put, Act.eval, Array.getD_eq_getD_getElem?]
  rw [Array.getElem?_setIfInBounds_ne h]
theorem act_swap (a : Act) (d e : Tmp) (v u : Value) (h : d ≠ e) : (a.put (some d) v).put (some e) u = (a.put (some e) u).put (some d) v := Act.put_comm a v u (fun x hx hy => by injection hx with hx; injection hy with hy; exact h (hx.trans hy.symm))
theorem step_call3 {ops : Array Oper} {o : Oper} {a : Act} {w : World} {K : Act → World → Prop} {Q : Exit → Act → World → Prop} {E : Prop} (hgd : o.guard = none) (x y z : Operand) (ts : Array TypeId)
    (hop : o.op = Op.call { callee := Callee.value (Operand.func 35), args := #[x, y, z], argTypes := ts }) {vx vy vz v : Value} (hx : a.eval x = vx) (hy : a.eval y = vy) (hz : a.eval z = vz)
    (hc : Calls Tryd.prog 35 #[vx, vy, vz] w (Plain v w)) (h : ∀ w' : World, Below w.heap.size w w' → K (a.put o.dst v) w') : if Region.wanted o (yielded ops a.tmps) = true then Oper.wp Tryd.prog o a w K Q else E := by
  have hw : Region.wanted o (yielded ops a.tmps) = true := by simp [Region.wanted, hgd]
  rw [if_pos hw]
  have hrun : (execOp a.eval o).run Tryd.prog w = .ok (.enter 35 #[vx, vy, vz]) w := by
    have hf : a.eval (Operand.func 35) = .func (.func 35) #[] #[] := rfl
    simp only [execOp, hop, resolve, List.map_toArray, List.map_cons, List.map_nil, hx, hy, hz, hf]
    first | rfl | (simp [Deferred.ofValue, invoke, callFunc, go_sem, Tryd.func35]; done) | (simp [Deferred.ofValue, invoke, callFunc, go_sem, Tryd.func35]; rfl)
  unfold Oper.wp
  rw [hrun, Oper.upon_enter]
  refine hc.mono fun e w'' hh => ?_
  obtain ⟨rfl, hb⟩ := hh
  exact h _ hb

def ops5 : Array Oper :=
  #[{ dst := some 22, op := Op.load 37 (Operand.tmp 2), type := 37, pos := "c5_domino.go:100", after := #[], guard := none },
  { dst := some 23, op := Op.move (Operand.tmp 6), type := 3, pos := "c5_domino.go:100", after := #[], guard := none },
  { dst := some 24, op := Op.move (Operand.tmp 1), type := 3, pos := "c5_domino.go:100", after := #[], guard := none },
  { dst := some 25, op := Op.call { callee := Callee.value (Operand.func 35), args := #[Operand.tmp 22, Operand.tmp 23, Operand.tmp 24], argTypes := #[37, 3, 3] }, type := 58, pos := "c5_domino.go:100", after := #[{ on := 0, ground := Ground.data }, { on := 1, ground := Ground.data }, { on := 2, ground := Ground.data }], guard := none },
  { dst := some 26, op := Op.load 37 (Operand.tmp 2), type := 37, pos := "c5_domino.go:100", after := #[], guard := none },
  { dst := some 27, op := Op.move (Operand.tmp 6), type := 3, pos := "c5_domino.go:100", after := #[], guard := none },
  { dst := some 28, op := Op.binOp BinOp.add 3 (Operand.tmp 27) (Operand.const (Value.int IntKind.i64 1)) 3, type := 3, pos := "c5_domino.go:100", after := #[{ on := 5, ground := Ground.data }], guard := none },
  { dst := some 29, op := Op.move (Operand.tmp 1), type := 3, pos := "c5_domino.go:100", after := #[], guard := none },
  { dst := some 30, op := Op.call { callee := Callee.value (Operand.func 35), args := #[Operand.tmp 26, Operand.tmp 28, Operand.tmp 29], argTypes := #[37, 3, 3] }, type := 58, pos := "c5_domino.go:100", after := #[{ on := 4, ground := Ground.data }, { on := 6, ground := Ground.data }, { on := 7, ground := Ground.data }, { on := 3, ground := Ground.chain }], guard := none },
  { dst := some 7, op := Op.alloc 58, type := 0, pos := "c5_domino.go:100", after := #[], guard := none },
  { dst := some 8, op := Op.alloc 58, type := 0, pos := "c5_domino.go:100", after := #[], guard := none },
  { dst := none, op := Op.store 58 (Operand.tmp 7) (Operand.tmp 25), type := 0, pos := "c5_domino.go:100", after := #[{ on := 9, ground := Ground.data }, { on := 3, ground := Ground.data }, { on := 8, ground := Ground.chain }, { on := 0, ground := Ground.phase }, { on := 1, ground := Ground.phase }, { on := 2, ground := Ground.phase }, { on := 3, ground := Ground.phase }, { on := 4, ground := Ground.textOnly Departure.lateStores }, { on := 5, ground := Ground.textOnly Departure.lateStores }, { on := 6, ground := Ground.textOnly Departure.lateStores }, { on := 7, ground := Ground.textOnly Departure.lateStores }, { on := 8, ground := Ground.textOnly Departure.lateStoresUnsure }, { on := 9, ground := Ground.phase }, { on := 10, ground := Ground.phase }], guard := none },
  { dst := none, op := Op.store 58 (Operand.tmp 8) (Operand.tmp 30), type := 0, pos := "c5_domino.go:100", after := #[{ on := 10, ground := Ground.data }, { on := 8, ground := Ground.data }, { on := 11, ground := Ground.chain }, { on := 0, ground := Ground.phase }, { on := 1, ground := Ground.phase }, { on := 2, ground := Ground.phase }, { on := 3, ground := Ground.phase }, { on := 4, ground := Ground.phase }, { on := 5, ground := Ground.phase }, { on := 6, ground := Ground.phase }, { on := 7, ground := Ground.phase }, { on := 8, ground := Ground.phase }, { on := 9, ground := Ground.phase }, { on := 10, ground := Ground.phase }, { on := 11, ground := Ground.phase }], guard := none }]

theorem any_eq {P : Program} {ops : Array Oper} {Q : Exit → Act → World → Prop} {md : Region.Mode} {S : World → Prop} {fuel : Nat} {l l' : Array Bool} {a a' : Act} {w : World} (hl : l = l') (ha : a = a') (H : wpAnyH P md ops Q S fuel l' a' w) : wpAnyH P md ops Q S fuel l a w := by
  subst hl
  subst ha
  exact H
theorem load_board {w' : World} {gb : Nat} {x y : Value} (h : Box w' gb 37 #[x, y]) (hx : x.oneCell' = true) (hy : y.oneCell' = true) : (Instr.loadAt 37 (.pointer (some ⟨gb, 0, none⟩))).run Tryd.prog w' = .ok (.agg #[x, y]) w' := by
  have c0 := h.cell 0
  have c1 := h.cell 1
  simp [Instr.loadAt, go_sem, c0, c1]

set_option linter.unusedSimpArgs false
set_option maxHeartbeats 4000000 in
set_option maxRecDepth 100000 in
theorem region5_w {Q : Exit → Act → World → Prop} (hQ : ∀ c a d v w, Q (.panic c) (a.put d v) w → Q (.panic c) a w) {a : Act} {W0 : World} {gb : Nat} {w h k set : Int} {fA fB : Nat → Bool}
    (hsz : a.tmps.size = 62) (e1 : a.eval (.tmp 1) = .int .i64 set) (e2 : a.eval (.tmp 2) = .pointer (some ⟨gb, 0, none⟩)) (e6 : a.eval (.tmp 6) = .int .i64 k) (ek : IntKind.i64.wrap (k + 1) = k + 1)
    (bx : Box W0 gb 37 #[.int .i64 w, .int .i64 h])
    (HC1 : ∀ w5, Calls Tryd.prog 35 #[.agg #[.int .i64 w, .int .i64 h], .int .i64 k, .int .i64 set] w5 (Plain (.agg #[.bool (fA 0), .bool (fA 1), .bool (fA 2), .bool (fA 3), .bool (fA 4)]) w5)) (HC2 : ∀ w5, Calls Tryd.prog 35 #[.agg #[.int .i64 w, .int .i64 h], .int .i64 (k + 1), .int .i64 set] w5 (Plain (.agg #[.bool (fB 0), .bool (fB 1), .bool (fB 2), .bool (fB 3), .bool (fB 4)]) w5))
    (H : ∀ (g7 g8 : Nat) (w' : World), g7 ≠ g8 → W0.heap.size ≤ g7 → W0.heap.size ≤ g8 → Box w' g7 58 (bitsF fA) → Box w' g8 58 (bitsF fB) → Box w' gb 37 #[.int .i64 w, .int .i64 h] → Below W0.heap.size W0 w' →
      Q .normal (((((((((((a.put (some 22) (.agg #[.int .i64 w, .int .i64 h])).put (some 23) (.int .i64 k)).put (some 24) (.int .i64 set)).put (some 26) (.agg #[.int .i64 w, .int .i64 h])).put (some 27) (.int .i64 k)).put (some 28) (.int .i64 (k + 1))).put (some 29) (.int .i64 set)).put (some 25) (.agg #[.bool (fA 0), .bool (fA 1), .bool (fA 2), .bool (fA 3), .bool (fA 4)])).put (some 30) (.agg #[.bool (fB 0), .bool (fB 1), .bool (fB 2), .bool (fB 3), .bool (fB 4)])).put (some 7) (.pointer (some ⟨g7, 0, none⟩))).put (some 8) (.pointer (some ⟨g8, 0, none⟩))) w') :
    (Code.region 5 ops5 true).wp Tryd.prog Q a W0 := by
  obtain ⟨b0, hb0⟩ : ∃ b0, (((((((a.put (some 22) (.agg #[.int .i64 w, .int .i64 h])).put (some 23) (.int .i64 k)).put (some 24) (.int .i64 set)).put (some 26) (.agg #[.int .i64 w, .int .i64 h])).put (some 27) (.int .i64 k)).put (some 28) (.int .i64 (k + 1))).put (some 29) (.int .i64 set)) = b0 := ⟨_, rfl⟩
  have hbs : b0.tmps.size = 62 := by rw [← hb0]; simp [act_size, hsz]
  have b22 : b0.eval (.tmp 22) = .agg #[.int .i64 w, .int .i64 h] := by rw [← hb0]; simp [act_ne, act_self, act_size, hsz]
  have b23 : b0.eval (.tmp 23) = .int .i64 k := by rw [← hb0]; simp [act_ne, act_self, act_size, hsz]
  have b24 : b0.eval (.tmp 24) = .int .i64 set := by rw [← hb0]; simp [act_ne, act_self, act_size, hsz]
  have b26 : b0.eval (.tmp 26) = .agg #[.int .i64 w, .int .i64 h] := by rw [← hb0]; simp [act_ne, act_self, act_size, hsz]
  have b28 : b0.eval (.tmp 28) = .int .i64 (k + 1) := by rw [← hb0]; simp [act_ne, act_self, act_size, hsz]
  have b29 : b0.eval (.tmp 29) = .int .i64 set := by rw [← hb0]; simp [act_ne, act_self, act_size, hsz]
  rw [hb0] at H
  have st211 : ∀ (g7 g8 : Nat) (w' : World) (y7 : Box w' g7 58 (bitsF fun _ => false)) (l7 : W0.heap.size ≤ g7) (y8 : Box w' g8 58 (bitsF fun _ => false)) (l8 : W0.heap.size ≤ g8) (ne : g7 ≠ g8) (bg : Box w' gb 37 #[.int .i64 w, .int .i64 h]) (hb : Below W0.heap.size W0 w'), wpAnyH Tryd.prog .any ops5 Q (fun w' => Box w' gb 37 #[.int .i64 w, .int .i64 h]) 2 #[true, true, true, true, true, true, true, true, true, true, true, false, false] ((((b0.put (some 25) (.agg #[.bool (fA 0), .bool (fA 1), .bool (fA 2), .bool (fA 3), .bool (fA 4)])).put (some 30) (.agg #[.bool (fB 0), .bool (fB 1), .bool (fB 2), .bool (fB 3), .bool (fB 4)])).put (some 7) (.pointer (some ⟨g7, 0, none⟩))).put (some 8) (.pointer (some ⟨g8, 0, none⟩))) w' := by
    intro g7 g8 w' y7 l7 y8 l8 ne bg hb
    refine wpAnyH_ready (rs := [11]) (by kernel_rfl) (by simp) ?_
    refine AllReadyH.cons (o := { dst := none, op := Op.store 58 (Operand.tmp 7) (Operand.tmp 25), type := 0, pos := "c5_domino.go:100", after := #[{ on := 9, ground := Ground.data }, { on := 3, ground := Ground.data }, { on := 8, ground := Ground.chain }, { on := 0, ground := Ground.phase }, { on := 1, ground := Ground.phase }, { on := 2, ground := Ground.phase }, { on := 3, ground := Ground.phase }, { on := 4, ground := Ground.textOnly Departure.lateStores }, { on := 5, ground := Ground.textOnly Departure.lateStores }, { on := 6, ground := Ground.textOnly Departure.lateStores }, { on := 7, ground := Ground.textOnly Departure.lateStores }, { on := 8, ground := Ground.textOnly Departure.lateStoresUnsure }, { on := 9, ground := Ground.phase }, { on := 10, ground := Ground.phase }], guard := none }) rfl (fun K hK => step_store5 rfl (.tmp 7) (.tmp 25) rfl y7 fA ((act_ne _ (by decide) _).trans (act_self (by simp [act_size, hbs]) _)) ((act_ne _ (by decide) _).trans ((act_ne _ (by decide) _).trans ((act_ne _ (by decide) _).trans (act_self (by simp [act_size, hbs]) _)))) (fun w5 z7 hg => hK.out _ _ (bg.grownN hg (fun e => by have := bx.in_; omega)) (fun _ => ?_))) AllReadyH.nil
    have y8' := y8.grownN hg (Ne.symm ne)
    have bg' := bg.grownN hg (fun e => by have := bx.in_; omega)
    have hb' := below_grownN hb hg hb.size l7
    refine wpAnyH_ready (rs := [12]) (by kernel_rfl) (by simp) ?_
    refine AllReadyH.cons (o := { dst := none, op := Op.store 58 (Operand.tmp 8) (Operand.tmp 30), type := 0, pos := "c5_domino.go:100", after := #[{ on := 10, ground := Ground.data }, { on := 8, ground := Ground.data }, { on := 11, ground := Ground.chain }, { on := 0, ground := Ground.phase }, { on := 1, ground := Ground.phase }, { on := 2, ground := Ground.phase }, { on := 3, ground := Ground.phase }, { on := 4, ground := Ground.phase }, { on := 5, ground := Ground.phase }, { on := 6, ground := Ground.phase }, { on := 7, ground := Ground.phase }, { on := 8, ground := Ground.phase }, { on := 9, ground := Ground.phase }, { on := 10, ground := Ground.phase }, { on := 11, ground := Ground.phase }], guard := none }) rfl (fun K hK => step_store5 rfl (.tmp 8) (.tmp 30) rfl y8' fB (act_self (by simp [act_size, hbs]) _) ((act_ne _ (by decide) _).trans ((act_ne _ (by decide) _).trans (act_self (by simp [act_size, hbs]) _))) (fun w6 z8 hg' => hK.out _ _ (bg'.grownN hg' (fun e => by have := bx.in_; omega)) (fun _ => ?_))) AllReadyH.nil
    refine wpAnyH_done (by kernel_rfl) ?_ _
    exact H g7 g8 w6 ne l7 l8 (z7.grownN hg' ne) z8 (bg'.grownN hg' (fun e => by have := bx.in_; omega)) (below_grownN hb' hg' hb'.size l8)
  have st210 : ∀ (g7 g8 : Nat) (w' : World) (y7 : Box w' g7 58 (bitsF fun _ => false)) (l7 : W0.heap.size ≤ g7) (bg : Box w' gb 37 #[.int .i64 w, .int .i64 h]) (hb : Below W0.heap.size W0 w'), wpAnyH Tryd.prog .any ops5 Q (fun w' => Box w' gb 37 #[.int .i64 w, .int .i64 h]) 3 #[true, true, true, true, true, true, true, true, true, true, false, false, false] (((b0.put (some 25) (.agg #[.bool (fA 0), .bool (fA 1), .bool (fA 2), .bool (fA 3), .bool (fA 4)])).put (some 30) (.agg #[.bool (fB 0), .bool (fB 1), .bool (fB 2), .bool (fB 3), .bool (fB 4)])).put (some 7) (.pointer (some ⟨g7, 0, none⟩))) w' := by
    intro g7 g8 w' y7 l7 bg hb
    refine wpAnyH_ready (rs := [10]) (by kernel_rfl) (by simp) ?_
    refine AllReadyH.cons (o := { dst := some 8, op := Op.alloc 58, type := 0, pos := "c5_domino.go:100", after := #[], guard := none }) rfl (fun K hK => step_alloc5 rfl rfl (fun w5 g hg y b5 => hK.out _ _ (bg.then b5) (fun _ => any_eq (by rfl) (rfl) (st211 g7 g w5 (y7.then b5) l7 y (hg ▸ hb.size) (fun e => by have := y7.in_; omega) (bg.then b5) (below_then hb hb.size b5))))) ?_
    exact AllReadyH.nil
  have st201 : ∀ (g7 g8 : Nat) (w' : World) (y8 : Box w' g8 58 (bitsF fun _ => false)) (l8 : W0.heap.size ≤ g8) (bg : Box w' gb 37 #[.int .i64 w, .int .i64 h]) (hb : Below W0.heap.size W0 w'), wpAnyH Tryd.prog .any ops5 Q (fun w' => Box w' gb 37 #[.int .i64 w, .int .i64 h]) 3 #[true, true, true, true, true, true, true, true, true, false, true, false, false] (((b0.put (some 25) (.agg #[.bool (fA 0), .bool (fA 1), .bool (fA 2), .bool (fA 3), .bool (fA 4)])).put (some 30) (.agg #[.bool (fB 0), .bool (fB 1), .bool (fB 2), .bool (fB 3), .bool (fB 4)])).put (some 8) (.pointer (some ⟨g8, 0, none⟩))) w' := by
    intro g7 g8 w' y8 l8 bg hb
    refine wpAnyH_ready (rs := [9]) (by kernel_rfl) (by simp) ?_
    refine AllReadyH.cons (o := { dst := some 7, op := Op.alloc 58, type := 0, pos := "c5_domino.go:100", after := #[], guard := none }) rfl (fun K hK => step_alloc5 rfl rfl (fun w5 g hg y b5 => hK.out _ _ (bg.then b5) (fun _ => any_eq (by rfl) (by rw [act_swap _ 8 7 _ _ (by decide)]) (st211 g g8 w5 y (hg ▸ hb.size) (y8.then b5) l8 (fun e => by have := y8.in_; omega) (bg.then b5) (below_then hb hb.size b5))))) ?_
    exact AllReadyH.nil
  have st200 : ∀ (g7 g8 : Nat) (w' : World) (bg : Box w' gb 37 #[.int .i64 w, .int .i64 h]) (hb : Below W0.heap.size W0 w'), wpAnyH Tryd.prog .any ops5 Q (fun w' => Box w' gb 37 #[.int .i64 w, .int .i64 h]) 4 #[true, true, true, true, true, true, true, true, true, false, false, false, false] ((b0.put (some 25) (.agg #[.bool (fA 0), .bool (fA 1), .bool (fA 2), .bool (fA 3), .bool (fA 4)])).put (some 30) (.agg #[.bool (fB 0), .bool (fB 1), .bool (fB 2), .bool (fB 3), .bool (fB 4)])) w' := by
    intro g7 g8 w' bg hb
    refine wpAnyH_ready (rs := [9, 10]) (by kernel_rfl) (by simp) ?_
    refine AllReadyH.cons (o := { dst := some 7, op := Op.alloc 58, type := 0, pos := "c5_domino.go:100", after := #[], guard := none }) rfl (fun K hK => step_alloc5 rfl rfl (fun w5 g hg y b5 => hK.out _ _ (bg.then b5) (fun _ => any_eq (by rfl) (rfl) (st210 g g8 w5 y (hg ▸ hb.size) (bg.then b5) (below_then hb hb.size b5))))) ?_
    refine AllReadyH.cons (o := { dst := some 8, op := Op.alloc 58, type := 0, pos := "c5_domino.go:100", after := #[], guard := none }) rfl (fun K hK => step_alloc5 rfl rfl (fun w5 g hg y b5 => hK.out _ _ (bg.then b5) (fun _ => any_eq (by rfl) (rfl) (st201 g7 g w5 y (hg ▸ hb.size) (bg.then b5) (below_then hb hb.size b5))))) ?_
    exact AllReadyH.nil
  have st111 : ∀ (g7 g8 : Nat) (w' : World) (y7 : Box w' g7 58 (bitsF fun _ => false)) (l7 : W0.heap.size ≤ g7) (y8 : Box w' g8 58 (bitsF fun _ => false)) (l8 : W0.heap.size ≤ g8) (ne : g7 ≠ g8) (bg : Box w' gb 37 #[.int .i64 w, .int .i64 h]) (hb : Below W0.heap.size W0 w'), wpAnyH Tryd.prog .any ops5 Q (fun w' => Box w' gb 37 #[.int .i64 w, .int .i64 h]) 3 #[true, true, true, true, true, true, true, true, false, true, true, false, false] (((b0.put (some 25) (.agg #[.bool (fA 0), .bool (fA 1), .bool (fA 2), .bool (fA 3), .bool (fA 4)])).put (some 7) (.pointer (some ⟨g7, 0, none⟩))).put (some 8) (.pointer (some ⟨g8, 0, none⟩))) w' := by
    intro g7 g8 w' y7 l7 y8 l8 ne bg hb
    refine wpAnyH_ready (rs := [8]) (by kernel_rfl) (by simp) ?_
    refine AllReadyH.cons (o := { dst := some 30, op := Op.call { callee := Callee.value (Operand.func 35), args := #[Operand.tmp 26, Operand.tmp 28, Operand.tmp 29], argTypes := #[37, 3, 3] }, type := 58, pos := "c5_domino.go:100", after := #[{ on := 4, ground := Ground.data }, { on := 6, ground := Ground.data }, { on := 7, ground := Ground.data }, { on := 3, ground := Ground.chain }], guard := none }) rfl (fun K hK => step_call3 rfl (.tmp 26) (.tmp 28) (.tmp 29) _ rfl ((act_ne _ (by decide) _).trans ((act_ne _ (by decide) _).trans ((act_ne _ (by decide) _).trans b26))) ((act_ne _ (by decide) _).trans ((act_ne _ (by decide) _).trans ((act_ne _ (by decide) _).trans b28))) ((act_ne _ (by decide) _).trans ((act_ne _ (by decide) _).trans ((act_ne _ (by decide) _).trans b29))) (HC2 _) (fun w5 b5 => hK.out _ _ (bg.then b5) (fun _ => any_eq (by rfl) (by rw [act_swap _ 8 30 _ _ (by decide), act_swap _ 7 30 _ _ (by decide)]) (st211 g7 g8 w5 (y7.then b5) l7 (y8.then b5) l8 ne (bg.then b5) (below_then hb hb.size b5))))) ?_
    exact AllReadyH.nil
  have st110 : ∀ (g7 g8 : Nat) (w' : World) (y7 : Box w' g7 58 (bitsF fun _ => false)) (l7 : W0.heap.size ≤ g7) (bg : Box w' gb 37 #[.int .i64 w, .int .i64 h]) (hb : Below W0.heap.size W0 w'), wpAnyH Tryd.prog .any ops5 Q (fun w' => Box w' gb 37 #[.int .i64 w, .int .i64 h]) 4 #[true, true, true, true, true, true, true, true, false, true, false, false, false] ((b0.put (some 25) (.agg #[.bool (fA 0), .bool (fA 1), .bool (fA 2), .bool (fA 3), .bool (fA 4)])).put (some 7) (.pointer (some ⟨g7, 0, none⟩))) w' := by
    intro g7 g8 w' y7 l7 bg hb
    refine wpAnyH_ready (rs := [8, 10]) (by kernel_rfl) (by simp) ?_
    refine AllReadyH.cons (o := { dst := some 30, op := Op.call { callee := Callee.value (Operand.func 35), args := #[Operand.tmp 26, Operand.tmp 28, Operand.tmp 29], argTypes := #[37, 3, 3] }, type := 58, pos := "c5_domino.go:100", after := #[{ on := 4, ground := Ground.data }, { on := 6, ground := Ground.data }, { on := 7, ground := Ground.data }, { on := 3, ground := Ground.chain }], guard := none }) rfl (fun K hK => step_call3 rfl (.tmp 26) (.tmp 28) (.tmp 29) _ rfl ((act_ne _ (by decide) _).trans ((act_ne _ (by decide) _).trans b26)) ((act_ne _ (by decide) _).trans ((act_ne _ (by decide) _).trans b28)) ((act_ne _ (by decide) _).trans ((act_ne _ (by decide) _).trans b29)) (HC2 _) (fun w5 b5 => hK.out _ _ (bg.then b5) (fun _ => any_eq (by rfl) (by rw [act_swap _ 7 30 _ _ (by decide)]) (st210 g7 g8 w5 (y7.then b5) l7 (bg.then b5) (below_then hb hb.size b5))))) ?_
    refine AllReadyH.cons (o := { dst := some 8, op := Op.alloc 58, type := 0, pos := "c5_domino.go:100", after := #[], guard := none }) rfl (fun K hK => step_alloc5 rfl rfl (fun w5 g hg y b5 => hK.out _ _ (bg.then b5) (fun _ => any_eq (by rfl) (rfl) (st111 g7 g w5 (y7.then b5) l7 y (hg ▸ hb.size) (fun e => by have := y7.in_; omega) (bg.then b5) (below_then hb hb.size b5))))) ?_
    exact AllReadyH.nil
  have st101 : ∀ (g7 g8 : Nat) (w' : World) (y8 : Box w' g8 58 (bitsF fun _ => false)) (l8 : W0.heap.size ≤ g8) (bg : Box w' gb 37 #[.int .i64 w, .int .i64 h]) (hb : Below W0.heap.size W0 w'), wpAnyH Tryd.prog .any ops5 Q (fun w' => Box w' gb 37 #[.int .i64 w, .int .i64 h]) 4 #[true, true, true, true, true, true, true, true, false, false, true, false, false] ((b0.put (some 25) (.agg #[.bool (fA 0), .bool (fA 1), .bool (fA 2), .bool (fA 3), .bool (fA 4)])).put (some 8) (.pointer (some ⟨g8, 0, none⟩))) w' := by
    intro g7 g8 w' y8 l8 bg hb
    refine wpAnyH_ready (rs := [8, 9]) (by kernel_rfl) (by simp) ?_
    refine AllReadyH.cons (o := { dst := some 30, op := Op.call { callee := Callee.value (Operand.func 35), args := #[Operand.tmp 26, Operand.tmp 28, Operand.tmp 29], argTypes := #[37, 3, 3] }, type := 58, pos := "c5_domino.go:100", after := #[{ on := 4, ground := Ground.data }, { on := 6, ground := Ground.data }, { on := 7, ground := Ground.data }, { on := 3, ground := Ground.chain }], guard := none }) rfl (fun K hK => step_call3 rfl (.tmp 26) (.tmp 28) (.tmp 29) _ rfl ((act_ne _ (by decide) _).trans ((act_ne _ (by decide) _).trans b26)) ((act_ne _ (by decide) _).trans ((act_ne _ (by decide) _).trans b28)) ((act_ne _ (by decide) _).trans ((act_ne _ (by decide) _).trans b29)) (HC2 _) (fun w5 b5 => hK.out _ _ (bg.then b5) (fun _ => any_eq (by rfl) (by rw [act_swap _ 8 30 _ _ (by decide)]) (st201 g7 g8 w5 (y8.then b5) l8 (bg.then b5) (below_then hb hb.size b5))))) ?_
    refine AllReadyH.cons (o := { dst := some 7, op := Op.alloc 58, type := 0, pos := "c5_domino.go:100", after := #[], guard := none }) rfl (fun K hK => step_alloc5 rfl rfl (fun w5 g hg y b5 => hK.out _ _ (bg.then b5) (fun _ => any_eq (by rfl) (by rw [act_swap _ 8 7 _ _ (by decide)]) (st111 g g8 w5 y (hg ▸ hb.size) (y8.then b5) l8 (fun e => by have := y8.in_; omega) (bg.then b5) (below_then hb hb.size b5))))) ?_
    exact AllReadyH.nil
  have st100 : ∀ (g7 g8 : Nat) (w' : World) (bg : Box w' gb 37 #[.int .i64 w, .int .i64 h]) (hb : Below W0.heap.size W0 w'), wpAnyH Tryd.prog .any ops5 Q (fun w' => Box w' gb 37 #[.int .i64 w, .int .i64 h]) 5 #[true, true, true, true, true, true, true, true, false, false, false, false, false] (b0.put (some 25) (.agg #[.bool (fA 0), .bool (fA 1), .bool (fA 2), .bool (fA 3), .bool (fA 4)])) w' := by
    intro g7 g8 w' bg hb
    refine wpAnyH_ready (rs := [8, 9, 10]) (by kernel_rfl) (by simp) ?_
    refine AllReadyH.cons (o := { dst := some 30, op := Op.call { callee := Callee.value (Operand.func 35), args := #[Operand.tmp 26, Operand.tmp 28, Operand.tmp 29], argTypes := #[37, 3, 3] }, type := 58, pos := "c5_domino.go:100", after := #[{ on := 4, ground := Ground.data }, { on := 6, ground := Ground.data }, { on := 7, ground := Ground.data }, { on := 3, ground := Ground.chain }], guard := none }) rfl (fun K hK => step_call3 rfl (.tmp 26) (.tmp 28) (.tmp 29) _ rfl ((act_ne _ (by decide) _).trans b26) ((act_ne _ (by decide) _).trans b28) ((act_ne _ (by decide) _).trans b29) (HC2 _) (fun w5 b5 => hK.out _ _ (bg.then b5) (fun _ => any_eq (by rfl) (rfl) (st200 g7 g8 w5 (bg.then b5) (below_then hb hb.size b5))))) ?_
    refine AllReadyH.cons (o := { dst := some 7, op := Op.alloc 58, type := 0, pos := "c5_domino.go:100", after := #[], guard := none }) rfl (fun K hK => step_alloc5 rfl rfl (fun w5 g hg y b5 => hK.out _ _ (bg.then b5) (fun _ => any_eq (by rfl) (rfl) (st110 g g8 w5 y (hg ▸ hb.size) (bg.then b5) (below_then hb hb.size b5))))) ?_
    refine AllReadyH.cons (o := { dst := some 8, op := Op.alloc 58, type := 0, pos := "c5_domino.go:100", after := #[], guard := none }) rfl (fun K hK => step_alloc5 rfl rfl (fun w5 g hg y b5 => hK.out _ _ (bg.then b5) (fun _ => any_eq (by rfl) (rfl) (st101 g7 g w5 y (hg ▸ hb.size) (bg.then b5) (below_then hb hb.size b5))))) ?_
    exact AllReadyH.nil
  have st011 : ∀ (g7 g8 : Nat) (w' : World) (y7 : Box w' g7 58 (bitsF fun _ => false)) (l7 : W0.heap.size ≤ g7) (y8 : Box w' g8 58 (bitsF fun _ => false)) (l8 : W0.heap.size ≤ g8) (ne : g7 ≠ g8) (bg : Box w' gb 37 #[.int .i64 w, .int .i64 h]) (hb : Below W0.heap.size W0 w'), wpAnyH Tryd.prog .any ops5 Q (fun w' => Box w' gb 37 #[.int .i64 w, .int .i64 h]) 4 #[true, true, true, false, true, true, true, true, false, true, true, false, false] ((b0.put (some 7) (.pointer (some ⟨g7, 0, none⟩))).put (some 8) (.pointer (some ⟨g8, 0, none⟩))) w' := by
    intro g7 g8 w' y7 l7 y8 l8 ne bg hb
    refine wpAnyH_ready (rs := [3]) (by kernel_rfl) (by simp) ?_
    refine AllReadyH.cons (o := { dst := some 25, op := Op.call { callee := Callee.value (Operand.func 35), args := #[Operand.tmp 22, Operand.tmp 23, Operand.tmp 24], argTypes := #[37, 3, 3] }, type := 58, pos := "c5_domino.go:100", after := #[{ on := 0, ground := Ground.data }, { on := 1, ground := Ground.data }, { on := 2, ground := Ground.data }], guard := none }) rfl (fun K hK => step_call3 rfl (.tmp 22) (.tmp 23) (.tmp 24) _ rfl ((act_ne _ (by decide) _).trans ((act_ne _ (by decide) _).trans b22)) ((act_ne _ (by decide) _).trans ((act_ne _ (by decide) _).trans b23)) ((act_ne _ (by decide) _).trans ((act_ne _ (by decide) _).trans b24)) (HC1 _) (fun w5 b5 => hK.out _ _ (bg.then b5) (fun _ => any_eq (by rfl) (by rw [act_swap _ 8 25 _ _ (by decide), act_swap _ 7 25 _ _ (by decide)]) (st111 g7 g8 w5 (y7.then b5) l7 (y8.then b5) l8 ne (bg.then b5) (below_then hb hb.size b5))))) ?_
    exact AllReadyH.nil
  have st010 : ∀ (g7 g8 : Nat) (w' : World) (y7 : Box w' g7 58 (bitsF fun _ => false)) (l7 : W0.heap.size ≤ g7) (bg : Box w' gb 37 #[.int .i64 w, .int .i64 h]) (hb : Below W0.heap.size W0 w'), wpAnyH Tryd.prog .any ops5 Q (fun w' => Box w' gb 37 #[.int .i64 w, .int .i64 h]) 5 #[true, true, true, false, true, true, true, true, false, true, false, false, false] (b0.put (some 7) (.pointer (some ⟨g7, 0, none⟩))) w' := by
    intro g7 g8 w' y7 l7 bg hb
    refine wpAnyH_ready (rs := [3, 10]) (by kernel_rfl) (by simp) ?_
    refine AllReadyH.cons (o := { dst := some 25, op := Op.call { callee := Callee.value (Operand.func 35), args := #[Operand.tmp 22, Operand.tmp 23, Operand.tmp 24], argTypes := #[37, 3, 3] }, type := 58, pos := "c5_domino.go:100", after := #[{ on := 0, ground := Ground.data }, { on := 1, ground := Ground.data }, { on := 2, ground := Ground.data }], guard := none }) rfl (fun K hK => step_call3 rfl (.tmp 22) (.tmp 23) (.tmp 24) _ rfl ((act_ne _ (by decide) _).trans b22) ((act_ne _ (by decide) _).trans b23) ((act_ne _ (by decide) _).trans b24) (HC1 _) (fun w5 b5 => hK.out _ _ (bg.then b5) (fun _ => any_eq (by rfl) (by rw [act_swap _ 7 25 _ _ (by decide)]) (st110 g7 g8 w5 (y7.then b5) l7 (bg.then b5) (below_then hb hb.size b5))))) ?_
    refine AllReadyH.cons (o := { dst := some 8, op := Op.alloc 58, type := 0, pos := "c5_domino.go:100", after := #[], guard := none }) rfl (fun K hK => step_alloc5 rfl rfl (fun w5 g hg y b5 => hK.out _ _ (bg.then b5) (fun _ => any_eq (by rfl) (rfl) (st011 g7 g w5 (y7.then b5) l7 y (hg ▸ hb.size) (fun e => by have := y7.in_; omega) (bg.then b5) (below_then hb hb.size b5))))) ?_
    exact AllReadyH.nil
  have st001 : ∀ (g7 g8 : Nat) (w' : World) (y8 : Box w' g8 58 (bitsF fun _ => false)) (l8 : W0.heap.size ≤ g8) (bg : Box w' gb 37 #[.int .i64 w, .int .i64 h]) (hb : Below W0.heap.size W0 w'), wpAnyH Tryd.prog .any ops5 Q (fun w' => Box w' gb 37 #[.int .i64 w, .int .i64 h]) 5 #[true, true, true, false, true, true, true, true, false, false, true, false, false] (b0.put (some 8) (.pointer (some ⟨g8, 0, none⟩))) w' := by
    intro g7 g8 w' y8 l8 bg hb
    refine wpAnyH_ready (rs := [3, 9]) (by kernel_rfl) (by simp) ?_
    refine AllReadyH.cons (o := { dst := some 25, op := Op.call { callee := Callee.value (Operand.func 35), args := #[Operand.tmp 22, Operand.tmp 23, Operand.tmp 24], argTypes := #[37, 3, 3] }, type := 58, pos := "c5_domino.go:100", after := #[{ on := 0, ground := Ground.data }, { on := 1, ground := Ground.data }, { on := 2, ground := Ground.data }], guard := none }) rfl (fun K hK => step_call3 rfl (.tmp 22) (.tmp 23) (.tmp 24) _ rfl ((act_ne _ (by decide) _).trans b22) ((act_ne _ (by decide) _).trans b23) ((act_ne _ (by decide) _).trans b24) (HC1 _) (fun w5 b5 => hK.out _ _ (bg.then b5) (fun _ => any_eq (by rfl) (by rw [act_swap _ 8 25 _ _ (by decide)]) (st101 g7 g8 w5 (y8.then b5) l8 (bg.then b5) (below_then hb hb.size b5))))) ?_
    refine AllReadyH.cons (o := { dst := some 7, op := Op.alloc 58, type := 0, pos := "c5_domino.go:100", after := #[], guard := none }) rfl (fun K hK => step_alloc5 rfl rfl (fun w5 g hg y b5 => hK.out _ _ (bg.then b5) (fun _ => any_eq (by rfl) (by rw [act_swap _ 8 7 _ _ (by decide)]) (st011 g g8 w5 y (hg ▸ hb.size) (y8.then b5) l8 (fun e => by have := y8.in_; omega) (bg.then b5) (below_then hb hb.size b5))))) ?_
    exact AllReadyH.nil
  have st000 : ∀ (g7 g8 : Nat) (w' : World) (bg : Box w' gb 37 #[.int .i64 w, .int .i64 h]) (hb : Below W0.heap.size W0 w'), wpAnyH Tryd.prog .any ops5 Q (fun w' => Box w' gb 37 #[.int .i64 w, .int .i64 h]) 6 #[true, true, true, false, true, true, true, true, false, false, false, false, false] b0 w' := by
    intro g7 g8 w' bg hb
    refine wpAnyH_ready (rs := [3, 9, 10]) (by kernel_rfl) (by simp) ?_
    refine AllReadyH.cons (o := { dst := some 25, op := Op.call { callee := Callee.value (Operand.func 35), args := #[Operand.tmp 22, Operand.tmp 23, Operand.tmp 24], argTypes := #[37, 3, 3] }, type := 58, pos := "c5_domino.go:100", after := #[{ on := 0, ground := Ground.data }, { on := 1, ground := Ground.data }, { on := 2, ground := Ground.data }], guard := none }) rfl (fun K hK => step_call3 rfl (.tmp 22) (.tmp 23) (.tmp 24) _ rfl b22 b23 b24 (HC1 _) (fun w5 b5 => hK.out _ _ (bg.then b5) (fun _ => any_eq (by rfl) (rfl) (st100 g7 g8 w5 (bg.then b5) (below_then hb hb.size b5))))) ?_
    refine AllReadyH.cons (o := { dst := some 7, op := Op.alloc 58, type := 0, pos := "c5_domino.go:100", after := #[], guard := none }) rfl (fun K hK => step_alloc5 rfl rfl (fun w5 g hg y b5 => hK.out _ _ (bg.then b5) (fun _ => any_eq (by rfl) (rfl) (st010 g g8 w5 y (hg ▸ hb.size) (bg.then b5) (below_then hb hb.size b5))))) ?_
    refine AllReadyH.cons (o := { dst := some 8, op := Op.alloc 58, type := 0, pos := "c5_domino.go:100", after := #[], guard := none }) rfl (fun K hK => step_alloc5 rfl rfl (fun w5 g hg y b5 => hK.out _ _ (bg.then b5) (fun _ => any_eq (by rfl) (rfl) (st001 g7 g w5 y (hg ▸ hb.size) (bg.then b5) (below_then hb hb.size b5))))) ?_
    exact AllReadyH.nil
  refine wp_region_held_drew (S := fun w' => Box w' gb 37 #[.int .i64 w, .int .i64 h]) (by kernel_rfl) bx (fun hHeld => ?_)
  refine wpAnyH_take (i := 0) (oi := { dst := some 22, op := Op.load 37 (Operand.tmp 2), type := 37, pos := "c5_domino.go:100", after := #[], guard := none }) (v := .agg #[.int .i64 w, .int .i64 h]) rfl (by kernel_rfl) (by kernel_rfl) (by kernel_rfl) (fun c a w h => hQ c a _ _ w h) (Or.inl ⟨by simp [Region.wanted], fun w' hS => ?_⟩) hHeld ?_
  · have hev : (a).eval (.tmp 2) = .pointer (some ⟨gb, 0, none⟩) := e2
    have hld := load_board hS rfl rfl
    simp [execOp, hev, hld, Result.andThen]
  refine wpAnyH_take (i := 1) (oi := { dst := some 23, op := Op.move (Operand.tmp 6), type := 3, pos := "c5_domino.go:100", after := #[], guard := none }) (v := .int .i64 k) rfl (by kernel_rfl) (by kernel_rfl) (by kernel_rfl) (fun c a w h => hQ c a _ _ w h) (Or.inl ⟨by simp [Region.wanted], fun w' hS => ?_⟩) hHeld ?_
  · have hev : ((a.put (some 22) (.agg #[.int .i64 w, .int .i64 h]))).eval (.tmp 6) = .int .i64 k := ((act_ne _ (by decide) _).trans e6)
    simp [execOp, hev]
  refine wpAnyH_take (i := 2) (oi := { dst := some 24, op := Op.move (Operand.tmp 1), type := 3, pos := "c5_domino.go:100", after := #[], guard := none }) (v := .int .i64 set) rfl (by kernel_rfl) (by kernel_rfl) (by kernel_rfl) (fun c a w h => hQ c a _ _ w h) (Or.inl ⟨by simp [Region.wanted], fun w' hS => ?_⟩) hHeld ?_
  · have hev : (((a.put (some 22) (.agg #[.int .i64 w, .int .i64 h])).put (some 23) (.int .i64 k))).eval (.tmp 1) = .int .i64 set := ((act_ne _ (by decide) _).trans ((act_ne _ (by decide) _).trans e1))
    simp [execOp, hev]
  refine wpAnyH_take (i := 4) (oi := { dst := some 26, op := Op.load 37 (Operand.tmp 2), type := 37, pos := "c5_domino.go:100", after := #[], guard := none }) (v := .agg #[.int .i64 w, .int .i64 h]) rfl (by kernel_rfl) (by kernel_rfl) (by kernel_rfl) (fun c a w h => hQ c a _ _ w h) (Or.inl ⟨by simp [Region.wanted], fun w' hS => ?_⟩) hHeld ?_
  · have hev : ((((a.put (some 22) (.agg #[.int .i64 w, .int .i64 h])).put (some 23) (.int .i64 k)).put (some 24) (.int .i64 set))).eval (.tmp 2) = .pointer (some ⟨gb, 0, none⟩) := ((act_ne _ (by decide) _).trans ((act_ne _ (by decide) _).trans ((act_ne _ (by decide) _).trans e2)))
    have hld := load_board hS rfl rfl
    simp [execOp, hev, hld, Result.andThen]
  refine wpAnyH_take (i := 5) (oi := { dst := some 27, op := Op.move (Operand.tmp 6), type := 3, pos := "c5_domino.go:100", after := #[], guard := none }) (v := .int .i64 k) rfl (by kernel_rfl) (by kernel_rfl) (by kernel_rfl) (fun c a w h => hQ c a _ _ w h) (Or.inl ⟨by simp [Region.wanted], fun w' hS => ?_⟩) hHeld ?_
  · have hev : (((((a.put (some 22) (.agg #[.int .i64 w, .int .i64 h])).put (some 23) (.int .i64 k)).put (some 24) (.int .i64 set)).put (some 26) (.agg #[.int .i64 w, .int .i64 h]))).eval (.tmp 6) = .int .i64 k := ((act_ne _ (by decide) _).trans ((act_ne _ (by decide) _).trans ((act_ne _ (by decide) _).trans ((act_ne _ (by decide) _).trans e6))))
    simp [execOp, hev]
  refine wpAnyH_take (i := 6) (oi := { dst := some 28, op := Op.binOp BinOp.add 3 (Operand.tmp 27) (Operand.const (Value.int IntKind.i64 1)) 3, type := 3, pos := "c5_domino.go:100", after := #[{ on := 5, ground := Ground.data }], guard := none }) (v := .int .i64 (k + 1)) rfl (by kernel_rfl) (by kernel_rfl) (by kernel_rfl) (fun c a w h => hQ c a _ _ w h) (Or.inl ⟨by simp [Region.wanted], fun w' hS => ?_⟩) hHeld ?_
  · have hev : ((((((a.put (some 22) (.agg #[.int .i64 w, .int .i64 h])).put (some 23) (.int .i64 k)).put (some 24) (.int .i64 set)).put (some 26) (.agg #[.int .i64 w, .int .i64 h])).put (some 27) (.int .i64 k))).eval (.tmp 27) = .int .i64 k := (act_self (by simp [act_size, hsz]) _)
    have hcv : ((((((a.put (some 22) (.agg #[.int .i64 w, .int .i64 h])).put (some 23) (.int .i64 k)).put (some 24) (.int .i64 set)).put (some 26) (.agg #[.int .i64 w, .int .i64 h])).put (some 27) (.int .i64 k))).eval (.const (.int .i64 1)) = .int .i64 1 := rfl
    have hadd : (binOp BinOp.add 3 (.int .i64 k) (.int .i64 1)).run Tryd.prog w' = .ok (.int .i64 (IntKind.i64.wrap (k + 1))) w' := by kernel_rfl
    rw [ek] at hadd
    have heg : (eqGuard BinOp.add 3 (.tmp 27) (.const (.int .i64 1)) (.int .i64 k) (.int .i64 1)).run Tryd.prog w' = .ok () w' := by kernel_rfl
    simp only [execOp, hev, hcv, heg, hadd, Sem.run_bind, Sem.run_pure, Result.andThen_ok]
  refine wpAnyH_take (i := 7) (oi := { dst := some 29, op := Op.move (Operand.tmp 1), type := 3, pos := "c5_domino.go:100", after := #[], guard := none }) (v := .int .i64 set) rfl (by kernel_rfl) (by kernel_rfl) (by kernel_rfl) (fun c a w h => hQ c a _ _ w h) (Or.inl ⟨by simp [Region.wanted], fun w' hS => ?_⟩) hHeld ?_
  · have hev : (((((((a.put (some 22) (.agg #[.int .i64 w, .int .i64 h])).put (some 23) (.int .i64 k)).put (some 24) (.int .i64 set)).put (some 26) (.agg #[.int .i64 w, .int .i64 h])).put (some 27) (.int .i64 k)).put (some 28) (.int .i64 (k + 1)))).eval (.tmp 1) = .int .i64 set := ((act_ne _ (by decide) _).trans ((act_ne _ (by decide) _).trans ((act_ne _ (by decide) _).trans ((act_ne _ (by decide) _).trans ((act_ne _ (by decide) _).trans ((act_ne _ (by decide) _).trans e1))))))
    simp [execOp, hev]
  refine any_eq (by rfl) hb0 (st000 0 0 _ (show Box W0.drew gb 37 #[.int .i64 w, .int .i64 h] from bx) (Below.refl _ _).drew)
end Go.Proofs.YtnikgnicjbcbmaaDoor
