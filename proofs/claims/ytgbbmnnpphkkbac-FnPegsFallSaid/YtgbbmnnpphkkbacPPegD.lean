
/-
  The program's pegs: the chain of positions, and the map of those that are left.
-/
import Derived.Test.YtgbbmnnpphkkbacPPegC
import Derived.Maps.OwnOps
import Derived.Maps.OwnSet
import Derived.Maps.Views
namespace Go.Proofs.Ytgbbmnnpphkkbac
open Go.RowKit Go.Maps
set_option linter.unusedVariables false

theorem mlawP : Keyed Try.prog 3 := int_keyed Try.underlying3
theorem mzeroP (w : World) : (zeroValue 4).run Try.prog w = .ok (.bool false) w := by kernel_rfl
abbrev OwnsB (w : World) (b n : Nat) (D : DataW Unit) : Prop := w.ownsMap Try.prog 3 (plainElem Try.prog 4) b n D
/-- The map reads as the set of some numbers. -/
def SetV (D : DataW Unit) (f : Nat → Bool) : Prop := IsMap D ∧ ∀ t : Nat, D.atKey (.int .i64 (t : Int)) (.lit (.bool false)) = .lit (.bool (f t))
theorem key_neP {x y : Nat} (h : x ≠ y) : (Lit.int .i64 (x : Int)) ≠ .int .i64 (y : Int) := fun e => h (by injection e with _ e; omega)
theorem SetV.empty : SetV (.map []) (fun _ => false) := ⟨isMap_empty, fun t => rfl⟩
theorem SetV.congr {D : DataW Unit} {f g : Nat → Bool} (h : SetV D f) (e : ∀ t, f t = g t) : SetV D g := ⟨h.1, fun t => by rw [h.2 t, e t]⟩
theorem SetV.put {D : DataW Unit} {f : Nat → Bool} (h : SetV D f) (x : Nat) : SetV (D.put (.int .i64 (x : Int)) (.lit (.bool true))) (fun t => t == x || f t) := by
  refine ⟨h.1.put _ _, fun t => ?_⟩
  by_cases e : t = x
  · subst e
    rw [atKey_put_same h.1 (k := Lit.int .i64 (t : Int)) (show WideAt.IsKeyLit (Lit.int .i64 (t : Int)) from trivial)]
    simp
  · rw [atKey_put_other (key_neP e), h.2 t]
    simp [e]
theorem SetV.del {D : DataW Unit} {f : Nat → Bool} (h : SetV D f) (x : Nat) : SetV (D.del (.int .i64 (x : Int))) (fun t => !(t == x) && f t) := by
  refine ⟨h.1.del _, fun t => ?_⟩
  by_cases e : t = x
  · subst e
    rw [atKey_del_same]
    simp
  · rw [atKey_del_other (key_neP e), h.2 t]
    simp [e]
theorem plain_bool_inv {P : Program} {e : TypeId} (he : P.underlying e = some .bool) {v : Value} {z : DataW Unit × List MemPlace} (h : plainElem P e v = some z) : ∃ b, v = .bool b ∧ z = (.lit (.bool b), []) := by
  unfold plainElem at h
  rw [he] at h
  cases v <;> simp at h
  subst h
  exact ⟨_, rfl, rfl⟩
/-- 'm[k]' in a map of truth values of the call's own. -/
theorem wpList_lookup_own_bool {P : Program} (w : World) {ops : Array Oper} {rest : List Oper} {o : Oper} {a : Act} {Q : Exit → Act → World → Prop}
    (hg : o.guard = none) (m x : Operand) (t : TypeId) (hop : o.op = Op.lookup t m x false)
    (k e : TypeId) (K : Keyed P k) (ht : P.underlying t = some (.map k e)) (he : P.underlying e = some .bool) (hz : (zeroValue e).run P w = .ok (.bool false) w) (b n : Nat) (D : DataW Unit)
    (hm : a.eval m = .map (some b)) (hown : w.ownsMap P k (plainElem P e) b n D) (key : Value) (kl : Lit) (hx : a.eval x = key) (hkey : keyOf P k key = some kl)
    (c : Bool) (hc : D.atKey kl (.lit (.bool false)) = .lit (.bool c)) (hK : wpList P ops Q rest (a.put o.dst (.bool c)) w) :
    wpList P ops Q (o :: rest) a w := by
  refine wpList_plain hg fun K' hK' => ?_
  obtain ⟨v, ps, hrun, hv⟩ := hown.lookup K ht hz (plainElem_bool he false) hkey
  obtain ⟨d, rfl, hd⟩ := plain_bool_inv he hv
  have e1 := congrArg Prod.fst hd
  simp only at e1
  rw [hc] at e1
  injection e1 with e1
  injection e1 with e1
  subst e1
  unfold Oper.wp
  simp [execOp, hop, hm, hx, hrun, Result.andThen]
  exact hK' _ _ hK
theorem insert_ownP {P : Program} (w : World) {ops : Array Oper} {rest : List Oper} {o : Oper} {a : Act} {Q : Exit → Act → World → Prop}
    (hg : o.guard = none) (m x v : Operand) (t : TypeId) (hop : o.op = Op.insert t m x v)
    (k e : TypeId) (K : Keyed P k) (ht : P.underlying t = some (.map k e)) (R : Value → Option (DataW Unit × List MemPlace)) (b n : Nat) (D : DataW Unit)
    (hm : a.eval m = .map (some b)) (hown : w.ownsMap P k R b n D) (hn : n < maxLen) (key val : Value) (kl : Lit) (hx : a.eval x = key) (hv : a.eval v = val) (hkey : keyOf P k key = some kl)
    (d : DataW Unit) (ps : List MemPlace) (hval : R val = some (d, ps))
    (hK : ∀ w', w'.ownsMap P k R b (n + 1) (D.put kl d) → w.grownBy w' (some b) → wpList P ops Q rest (a.put o.dst undef) w') :
    wpList P ops Q (o :: rest) a w := by
  refine wpList_plain hg fun K' hK' => ?_
  obtain ⟨w', hrun, r1, r2⟩ := hown.update K ht hn hkey hval
  unfold Oper.wp
  simp [execOp, hop, hm, hx, hv, hrun, Result.andThen]
  exact hK' _ _ (hK w' r1 r2)
theorem key_wf {y : Nat} (h : y ≤ 4096) : (Lit.int .i64 (y : Int)).wf = true := by
  simp [Lit.wf, IntKind.min, IntKind.max, IntKind.bits, IntKind.signed]; omega

/-! ### What stands beside what -/
theorem own_nemap {w : World} {base size n b m : Nat} {e : TypeId} {v : Value} {xs : List Value} {D : DataW Unit} (h : w.ownsRow base e size v n xs) (hm : OwnsB w b m D) : v.ownBlock ≠ some b := fun e' => by
  obtain ⟨es, clock, hb, _⟩ := hm
  rcases h.2 with ⟨rfl, _⟩ | ⟨g, cap, cur, rfl, _, hg, _⟩
  · cases e'
  · injection e' with e'
    subst e'
    rw [hb] at hg
    cases hg
theorem box_nemap {w : World} {g b m : Nat} {t : TypeId} {cs : Array Value} {D : DataW Unit} (h : Box w g t cs) (hm : OwnsB w b m D) : g ≠ b := fun e => by
  obtain ⟨es, clock, hb, _⟩ := hm
  subst e
  unfold Box at h
  rw [hb] at h
  cases h
theorem box_ne {w : World} {g g' : Nat} {t t' : TypeId} {cs cs' : Array Value} (h : Box w g t cs) (h' : Box w g' t' cs') (hne : t ≠ t') : g ≠ g' := fun e => by
  subst e
  unfold Box at h h'
  rw [h] at h'
  simp at h'
  exact hne h'.2
theorem grown_setP (w : World) (p : Addr) (u : Value) : w.grownBy (w.setCell p u) (some p.block) := ⟨rfl, rfl, rfl, by simp, fun i _ hne => Below.heap_setCell w p u i (fun e => hne (by rw [e]))⟩

/-- What comes behind the j-th position. -/
def nextV (gs : List Nat) (j : Nat) : Value := .pointer ((gs[j]?).map fun g => ⟨g, 0, none⟩)
structure Chain (w : World) (B : Nat) (gs o : List Nat) : Prop where
  len : gs.length = o.length
  box : ∀ (j g y : Nat), gs[j]? = some g → o[j]? = some y → Box w g 60 #[.int .i64 (y : Int), nextV gs (j + 1)]
  nodup : gs.Nodup
  low : ∀ g ∈ gs, B ≤ g
theorem Chain.at_ {w : World} {B : Nat} {gs o : List Nat} (h : Chain w B gs o) {j : Nat} (hj : j < o.length) : ∃ g, gs[j]? = some g ∧ B ≤ g ∧ g < w.heap.size ∧ Box w g 60 #[.int .i64 ((o[j]?.getD 0 : Nat) : Int), nextV gs (j + 1)] := by
  have hg : j < gs.length := by rw [h.len]; exact hj
  have := h.box j gs[j] o[j] (List.getElem?_eq_getElem hg) (List.getElem?_eq_getElem hj)
  exact ⟨gs[j], List.getElem?_eq_getElem hg, h.low _ (List.getElem_mem hg), this.in_, by rw [List.getElem?_eq_getElem hj]; exact this⟩
theorem Chain.mem {w : World} {B : Nat} {gs o : List Nat} (h : Chain w B gs o) {g : Nat} (hg : g ∈ gs) : ∃ cs, Box w g 60 cs := by
  obtain ⟨j, hj, rfl⟩ := List.getElem_of_mem hg
  exact ⟨_, h.box j _ _ (List.getElem?_eq_getElem hj) (List.getElem?_eq_getElem (show j < o.length by rw [← h.len]; exact hj))⟩
theorem Chain.same {w w' : World} {B : Nat} {gs o : List Nat} (h : Chain w B gs o) (hs : ∀ g ∈ gs, w'.heap[g]? = w.heap[g]?) : Chain w' B gs o :=
  ⟨h.len, fun j g y h1 h2 => (hs g (List.mem_of_getElem? h1)).trans (h.box j g y h1 h2), h.nodup, h.low⟩
theorem Chain.push {w : World} {B gl : Nat} {gs o : List Nat} (h : Chain w B gs o) (hB : B ≤ w.heap.size) (hl : gs[o.length - 1]? = some gl) (h0 : 0 < o.length) (y : Nat) :
    Chain ((w.alloc (.cells #[.int .i64 (y : Int), .pointer none] 60)).setCell ⟨gl, 1, none⟩ (.pointer (some ⟨w.heap.size, 0, none⟩))) B (gs ++ [w.heap.size]) (o ++ [y]) := by
  have hnew : ∀ g ∈ gs, g < w.heap.size := fun g hg => by obtain ⟨cs, hb⟩ := h.mem hg; exact hb.in_
  have hgl := hnew gl (List.mem_of_getElem? hl)
  refine ⟨by simp [h.len], fun j g z h1 h2 => ?_, ?_, fun g hg => ?_⟩
  · by_cases hj : j < o.length
    · rw [List.getElem?_append_left (by rw [h.len]; exact hj)] at h1
      rw [List.getElem?_append_left hj] at h2
      have hb := (h.box j g z h1 h2).alloc (.cells #[.int .i64 (y : Int), .pointer none] 60)
      by_cases e : j = o.length - 1
      · subst e
        rw [hl] at h1
        injection h1 with h1
        subst h1
        have hs := hb.set 1 (.pointer (some ⟨w.heap.size, 0, none⟩))
        have hn : nextV (gs ++ [w.heap.size]) (o.length - 1 + 1) = .pointer (some ⟨w.heap.size, 0, none⟩) := by
          unfold nextV
          rw [show o.length - 1 + 1 = gs.length by rw [h.len]; omega, List.getElem?_append_right (Nat.le_refl _)]
          simp
        rw [hn]
        simpa using hs
      · have hn : nextV (gs ++ [w.heap.size]) (j + 1) = nextV gs (j + 1) := by
          unfold nextV
          rw [List.getElem?_append_left (by rw [h.len]; omega)]
        rw [hn]
        refine hb.other (p := ⟨gl, 1, none⟩) (fun e' => ?_) _
        simp only at e'
        subst e'
        have hi1 := (List.getElem?_eq_some_iff.1 h1)
        have hi2 := (List.getElem?_eq_some_iff.1 hl)
        obtain ⟨a1, a2⟩ := hi1
        obtain ⟨c1, c2⟩ := hi2
        exact e ((List.getElem_inj h.nodup).1 (a2.trans c2.symm))
    · have hj' : j = o.length := by
        have := (List.getElem?_eq_some_iff.1 h2).1
        simp at this; omega
      subst hj'
      rw [show o.length = gs.length from h.len.symm, List.getElem?_append_right (Nat.le_refl _)] at h1
      rw [List.getElem?_append_right (Nat.le_refl _)] at h2
      simp at h1 h2
      subst h1 h2
      have hn : nextV (gs ++ [w.heap.size]) (o.length + 1) = .pointer none := by
        unfold nextV
        rw [List.getElem?_eq_none (by simp [h.len])]
        rfl
      rw [hn]
      exact (Box.new w 60 #[.int .i64 (y : Int), .pointer none]).other (p := ⟨gl, 1, none⟩) (by simp only; omega) _
  · rw [List.nodup_append]
    refine ⟨h.nodup, by simp, fun a ha b hb hab => ?_⟩
    rw [List.mem_singleton.1 hb] at hab
    have := hnew a ha
    omega
  · rcases List.mem_append.1 hg with hg | hg
    · exact h.low g hg
    · rw [List.mem_singleton.1 hg]; exact hB

/-- Where the search of the program stands in memory. -/
structure StP (W w : World) (bw bh : Int) (gs o : List Nat) (nm : Nat) (D : DataW Unit) (v : Value) (sets : List Int) : Prop where
  own : w.ownsRow W.heap.size 3 1 v sets.length (ints sets)
  chain : Chain w W.heap.size gs o
  map : OwnsB w (W.heap.size + 2) nm D
  board : Box w W.heap.size 43 #[.int .i64 bw, .int .i64 bh]
  below : Below W.heap.size W w
section
variable {W w w' : World} {bw bh : Int} {gs o : List Nat} {nm : Nat} {D : DataW Unit} {v : Value} {sets : List Int}
theorem StP.alloc (h : StP W w bw bh gs o nm D v sets) (ob : Obj) : StP W (w.alloc ob) bw bh gs o nm D v sets :=
  ⟨h.own.alloc ob, h.chain.same fun g hg => by obtain ⟨cs, hb⟩ := h.chain.mem hg; exact Below.heap_alloc w ob g hb.in_, h.map.alloc ob, h.board.alloc ob, h.below.alloc h.below.size ob⟩
theorem StP.then (h : StP W w bw bh gs o nm D v sets) (hb : Below w.heap.size w w') : StP W w' bw bh gs o nm D v sets :=
  ⟨own_below h.own hb, h.chain.same fun g hg => by obtain ⟨cs, hb'⟩ := h.chain.mem hg; exact hb.block g hb'.in_,
    h.map.kept (row := none) ⟨hb.os, hb.tape, hb.output, hb.size, fun k hk _ => hb.block k hk⟩ (by simp), h.board.then hb, below_then h.below h.below.size hb⟩
theorem StP.drew (h : StP W w bw bh gs o nm D v sets) : StP W w.drew bw bh gs o nm D v sets := ⟨h.own, ⟨h.chain.len, h.chain.box, h.chain.nodup, h.chain.low⟩, h.map, h.board, h.below.drew⟩
theorem StP.row {v' : Value} {sets' : List Int} (h : StP W w bw bh gs o nm D v sets) (hg : w.grownBy w' v.ownBlock) (h' : w'.ownsRow W.heap.size 3 1 v' sets'.length (ints sets')) : StP W w' bw bh gs o nm D v' sets' :=
  ⟨h', h.chain.same fun g hgm => by
      obtain ⟨cs, hb⟩ := h.chain.mem hgm
      exact hg.block g hb.in_ (fun e => own_ne h.own hb (by decide) e.symm),
    h.map.kept hg (fun e => own_nemap h.own h.map e.symm), h.board.grown hg (own_ne h.own h.board (by decide)), below_grown h.below h.below.size h.own (Nat.le_refl _) hg⟩
theorem StP.mapped {nm' : Nat} {D' : DataW Unit} (h : StP W w bw bh gs o nm D v sets) (hg : w.grownBy w' (some (W.heap.size + 2))) (h' : OwnsB w' (W.heap.size + 2) nm' D') : StP W w' bw bh gs o nm' D' v sets :=
  ⟨h.own.kept hg (.inr (own_nemap h.own h.map)), h.chain.same fun g hgm => by
      obtain ⟨cs, hb⟩ := h.chain.mem hgm
      exact hg.block g hb.in_ (fun e => by injection e with e; exact box_nemap hb h.map e),
    h', h.board.grown hg (fun e => by injection e with e; exact box_nemap h.board h.map e.symm), h.below.grown hg h.below.size (fun z e => by injection e with e; omega)⟩
theorem StP.push {gl : Nat} (h : StP W w bw bh gs o nm D v sets) (hl : gs[o.length - 1]? = some gl) (h0 : 0 < o.length) (y : Nat) :
    StP W ((w.alloc (.cells #[.int .i64 (y : Int), .pointer none] 60)).setCell ⟨gl, 1, none⟩ (.pointer (some ⟨w.heap.size, 0, none⟩))) bw bh (gs ++ [w.heap.size]) (o ++ [y]) nm D v sets := by
  have ha := h.alloc (.cells #[.int .i64 (y : Int), .pointer none] 60)
  have hgm := List.mem_of_getElem? hl
  obtain ⟨cs, hb⟩ := ha.chain.mem hgm
  have hg := grown_setP (w.alloc (.cells #[.int .i64 (y : Int), .pointer none] 60)) ⟨gl, 1, none⟩ (.pointer (some ⟨w.heap.size, 0, none⟩))
  simp only at hg
  exact ⟨ha.own.kept hg (.inr (own_ne ha.own hb (by decide))), h.chain.push h.below.size hl h0 y, ha.map.kept hg (fun e => by injection e with e; exact box_nemap hb ha.map e.symm),
    ha.board.grown hg (fun e => by injection e with e; exact box_ne ha.board hb (by decide) e.symm), ha.below.grown hg ha.below.size (fun z e => by injection e with e; subst e; exact h.chain.low gl hgm)⟩
end
end Go.Proofs.Ytgbbmnnpphkkbac
