/-
  Words for memory that the walks of this place use: a row of cells behind a slice; what an append leaves; how rows stand when a call has made blocks of its own. Own work; nothing of a program.
-/
import Derived.Below
import Derived.Laws.OwnMore
import Derived.Maps.AppendAt
import Derived.Deep.AppendLies
import Derived.Deep.Draws
import Derived.Laws.Rows
import Derived.WalkKit
namespace Go.Proofs.YtmfdlijkpdgimaaGreatDoor
open Go.RowKit

theorem hide {p : Prop} (h : p) : Hid p := h

/-- Behind the address A lie the cells cs. -/
def Row (w : World) (A : Option Addr) (cs : List Value) : Prop := ∀ j (h : j < cs.length), ∃ ad, A = some ad ∧ w.cell? (ad.add j) = some cs[j]

abbrev ints (xs : List Int) : List Value := xs.map (Value.int .i64)

theorem addr_block (a : Addr) (n : Nat) : (a.add n).block = a.block := by
  unfold Addr.add
  by_cases h : n = 0 <;> simp [h]
theorem addr_far (a : Addr) (i j : Nat) : (a.add i).add j = a.add (i + j) := by
  unfold Addr.add
  by_cases h : i = 0
  · by_cases h' : j = 0 <;> simp [h, h']
  · by_cases h' : j = 0 <;> simp [h, h', Nat.add_assoc]

section
variable {w w' : World} {A : Option Addr} {cs : List Value}
theorem Row.empty (w : World) (A : Option Addr) : Row w A [] := fun j h => absurd h (by simp)
/-- The row stands where the blocks that there were are as they were. -/
theorem Row.kept {w0 : World} (h : Row w0 A cs) {u u' : World} (h0 : ∀ p : Addr, p.block < w0.heap.size → u.cell? p = w0.cell? p) (h1 : ∀ p : Addr, p.block < w0.heap.size → u'.cell? p = u.cell? p) : Row u' A cs := fun j hj => by
  obtain ⟨ad, e, hc⟩ := h j hj
  have hb := World.block_lt_of_cell? w0 _ hc
  exact ⟨ad, e, by rw [h1 _ hb, h0 _ hb]; exact hc⟩
theorem Row.below (h : Row w A cs) (hb : Below w.heap.size w w') : Row w' A cs := h.kept (u := w) (fun _ _ => rfl) fun _ hp => hb.cell hp
theorem Row.drew (h : Row w A cs) : Row w.drew A cs := h
theorem Row.drewN (h : Row w A cs) (k : Nat) : Row (w.drewN k) A cs := h
theorem Row.alloc (h : Row w A cs) (o : Obj) : Row (w.alloc o) A cs := h.kept (u := w) (fun _ _ => rfl) fun p hp => World.cell?_alloc_lt w o p hp
/-- It stands where another block is written. -/
theorem Row.grown {row : Option Nat} (h : Row w A cs) (hg : w.grownBy w' row) (hr : ∀ ad, A = some ad → row ≠ some ad.block) : Row w' A cs := fun j hj => by
  obtain ⟨ad, e, hc⟩ := h j hj
  refine ⟨ad, e, hg.cell hc ?_⟩
  rw [addr_block]
  exact fun x => hr ad e x.symm
theorem Row.int {zs : List Int} {k : Nat} (h : Row w A (ints zs)) (hk : k < zs.length) : ∃ ad, A = some ad ∧ w.cell? (ad.add k) = some (.int .i64 (zs[k]?.getD 0)) := by
  obtain ⟨ad, e, hc⟩ := h k (by simpa using hk)
  exact ⟨ad, e, by rw [hc]; simp [List.getElem?_eq_getElem hk]⟩
theorem Row.at_ {k : Nat} (h : Row w A cs) (hk : k < cs.length) : ∃ ad, A = some ad ∧ w.cell? (ad.add k) = some (cs[k]?.getD undef) := by
  obtain ⟨ad, e, hc⟩ := h k hk
  exact ⟨ad, e, by rw [hc]; simp [List.getElem?_eq_getElem hk]⟩
/-- The address lies in block B or behind it. -/
def From (B : Nat) (A : Option Addr) : Prop := ∀ ad, A = some ad → B ≤ ad.block
theorem From.mono {B B' : Nat} (h : From B A) (hb : B' ≤ B) : From B' A := fun ad e => Nat.le_trans hb (h ad e)
theorem Row.set_low {B : Nat} (h : Row w A cs) (hf : From B A) {p : Addr} (hp : p.block < B) (u : Value) : Row (w.setCell p u) A cs := fun j hj => by
  obtain ⟨ad, e, hc⟩ := h j hj
  exact ⟨ad, e, (World.cell?_setCell_other w p _ u (fun x => by have := hf ad e; rw [x, addr_block] at hp; omega)).trans hc⟩
/-- What the call owns, read as a row. -/
theorem own_row {base : Nat} {e : TypeId} {size n : Nat} {v : Value} (h : w.ownsRow base e size v n cs) :
    ∃ A c, v = .slice A n c ∧ n ≤ c ∧ c ≤ maxLen ∧ Row w A cs ∧ (∀ ad, A = some ad → ∃ g, ad = ⟨g, 0, none⟩ ∧ base ≤ g ∧ g < w.heap.size ∧ v.ownBlock = some g) := by
  rcases h.2 with ⟨rfl, rfl⟩ | ⟨g, cap, cur, rfl, hb, hg, hn, hm, hs, ht⟩
  · have : cs = [] := List.eq_nil_of_length_eq_zero (by have := h.1; simpa using this)
    subst this
    exact ⟨none, 0, rfl, Nat.le_refl _, Nat.zero_le _, Row.empty _ _, fun _ e => by cases e⟩
  · refine ⟨some ⟨g, 0, none⟩, cap, rfl, hn, hm, fun j hj => ⟨_, rfl, ?_⟩, ?_⟩
    · exact h.cells (g := g) rfl j _ (List.getElem?_eq_getElem hj)
    · rintro _ ⟨rfl⟩
      exact ⟨g, rfl, hb, (Array.getElem?_eq_some_iff.1 hg).1, rfl⟩
/-- A block that was just laid, as a row. -/
theorem row_new (w : World) (o : Array Value) (t : TypeId) {n : Nat} (hn : n = w.heap.size) : Row (w.alloc (.cells o t)) (some ⟨n, 0, none⟩) o.toList := by
  subst hn
  intro j hj
  refine ⟨_, rfl, ?_⟩
  have hadd : (⟨w.heap.size, 0, none⟩ : Addr).add j = ⟨w.heap.size, j, none⟩ := by unfold Addr.add; split <;> simp_all
  rw [hadd, cell_of_row _ w.heap.size j o t (0, 0) (heap_alloc_new w _)]
  simp at hj
  simp [Array.getElem?_eq_getElem hj]
end

theorem below_drewN {B : Nat} {a w : World} (h : Below B a w) (n : Nat) : Below B a (w.drewN n) := ⟨h.os, h.tape, h.output, h.size, h.block⟩
/-- An append to what the call owns from B on. -/
theorem below_grown {B : Nat} {a w w' : World} {base e size n : Nat} {v : Value} {xs : List Value} (h : Below B a w) (hB : B ≤ w.heap.size) (hown : w.ownsRow base e size v n xs) (hbase : B ≤ base) (hg : w.grownBy w' v.ownBlock) : Below B a w' :=
  h.grown hg hB fun k hk => Nat.le_trans hbase (hown.lt k hk).1
/-- A call that has made blocks of its own alone. -/
theorem below_then {B : Nat} {a w w' : World} (h : Below B a w) (hB : B ≤ w.heap.size) (h' : Below w.heap.size w w') : Below B a w' := h.trans (h'.mono hB)
theorem own_below {w w' : World} {base e size n : Nat} {v : Value} {xs : List Value} (h : w.ownsRow base e size v n xs) (hb : Below w.heap.size w w') : w'.ownsRow base e size v n xs :=
  h.kept (row := none) ⟨hb.os, hb.tape, hb.output, hb.size, fun k hk _ => hb.block k hk⟩ (by cases hv : v.ownBlock <;> simp)

/-- Behind a call that has made blocks of its own: what there was reads as it did (two rules that the walk takes by itself). -/
theorem olds {W w1 : World} (hb : Below W.heap.size W w1) : (∀ b o, b < W.heap.size → w1.cell? ⟨b, o, none⟩ = W.cell? ⟨b, o, none⟩) ∧ (∀ b o, b < W.heap.size → w1.frozen? ⟨b, o, none⟩ = W.frozen? ⟨b, o, none⟩) :=
  ⟨fun b o h => hb.cell (p := ⟨b, o, none⟩) h, fun b o h => hb.frozen (p := ⟨b, o, none⟩) h⟩

/-- BLOCK g IS KNOWN WHOLE: its cells are cs, none of them frozen. -/
def Box (w : World) (g : Nat) (t : TypeId) (cs : Array Value) : Prop := w.heap[g]? = some (.cells cs t (0, 0))
section
variable {w w' : World} {g : Nat} {t : TypeId} {cs : Array Value}
theorem Box.new (w : World) (t : TypeId) (cs : Array Value) : Box (w.alloc (.cells cs t)) w.heap.size t cs := heap_alloc_new w _
theorem Box.in_ (h : Box w g t cs) : g < w.heap.size := (Array.getElem?_eq_some_iff.1 h).1
theorem Box.cell (h : Box w g t cs) (i : Nat) : w.cell? ⟨g, i, none⟩ = cs[i]? := cell_of_row w g i cs t (0, 0) h
theorem Box.free (h : Box w g t cs) (i : Nat) : w.frozen? ⟨g, i, none⟩ = false := by
  unfold Box at h
  simp [World.frozen?, h]
theorem Box.alloc (h : Box w g t cs) (o : Obj) : Box (w.alloc o) g t cs := (Below.heap_alloc w o g h.in_).trans h
theorem Box.below {B : Nat} (h : Box w g t cs) (hb : Below B w w') (hg : g < B) : Box w' g t cs := (hb.block g hg).trans h
theorem Box.then (h : Box w g t cs) (hb : Below w.heap.size w w') : Box w' g t cs := h.below hb h.in_
theorem Box.grown {row : Option Nat} (h : Box w g t cs) (hb : w.grownBy w' row) (hg : row ≠ some g) : Box w' g t cs := (hb.block g h.in_ (fun e => hg e.symm)).trans h
theorem Box.other (h : Box w g t cs) {p : Addr} (hp : g ≠ p.block) (u : Value) : Box (w.setCell p u) g t cs := (Below.heap_setCell w p u g hp).trans h
theorem Box.set (h : Box w g t cs) (i : Nat) (u : Value) : Box (w.setCell ⟨g, i, none⟩ u) g t (cs.setIfInBounds i u) := by
  unfold Box at h ⊢
  simp [World.setCell, Array.getElem?_modify, h]
end

theorem ret_bool {a b : Bool} (h : a = b) : Ending.returned (.bool a) = .returned (.bool b) := by rw [h]
theorem ret_int {k : IntKind} {a b : Int} (h : a = b) : Ending.returned (.int k a) = .returned (.int k b) := by rw [h]
theorem take_snoc (xs : List Int) (k : Nat) (h : k < xs.length) : xs.take (k + 1) = xs.take k ++ [xs[k]?.getD 0] := by
  rw [List.take_succ_eq_append_getElem h]; simp [List.getElem?_eq_getElem h]

/-- What is known of an element type's row. -/
structure Elem (P : Program) (e : TypeId) (size bytes : Nat) : Prop where
  info : ∃ i z, P.info? e = some i ∧ i.zero = some z ∧ i.size = size ∧ i.bytes = bytes ∧ z.cells.size = size
  pos : 0 < size

theorem Elem.of {P : Program} {e : TypeId} {size bytes : Nat} {z : Value} (h : (P.info? e).map (fun i => (i.zero, i.size, i.bytes)) = some (some z, size, bytes)) (hz : z.cells.size = size) (hp : 0 < size) : Elem P e size bytes := by
  cases hi : P.info? e with
  | none => simp [hi] at h
  | some i =>
    simp only [hi, Option.map_some, Option.some.injEq, Prod.mk.injEq] at h
    exact ⟨⟨i, z, hi, h.1, h.2.1, h.2.2, hz⟩, hp⟩

/-- A plain function's end: the value, and nothing that there was has turned. -/
def Plain (v : Value) (w : World) (e : Ending) (w' : World) : Prop := e = .returned v ∧ Below w.heap.size w w'
/-- It hands back a row of its own. -/
def Owns (t : TypeId) (size n : Nat) (cs : List Value) (w : World) (e : Ending) (w' : World) : Prop := ∃ v, e = .returned v ∧ w'.ownsRow w.heap.size t size v n cs ∧ Below w.heap.size w w'

/-- AN APPEND TO A ROW OF THE CALL's OWN, whatever the source (nil too). -/
theorem put_run {P : Program} (w : World) {t e : TypeId} {size bytes : Nat} (ty : TypeId) (ht : P.underlying t = some (.slice e)) (he : Elem P e size bytes)
    {B n m c : Nat} {v : Value} {xs news : List Value} {A : Option Addr} (hown : w.ownsRow B e size v n xs) (hl : news.length = m * size) (hr : Row w A news)
    (h1 : ∀ u ∈ news, u.oneCell' = true) (hsmall : n + m ≤ 1099511627776) (hbytes : bytes ≤ 100) (hB : B ≤ w.heap.size) :
    ∃ v' w', (Builtin.append_ #[t, t] ty #[v, .slice A m c]).run P w = .ok v' w' ∧ w'.ownsRow B e size v' (n + m) (xs ++ news) ∧ w.grownBy w' v.ownBlock ∧ (v'.ownBlock = v.ownBlock ∨ v'.ownBlock = some w.heap.size) := by
  obtain ⟨⟨i, z, hi, hz, hs, hby, hzs⟩, hpos⟩ := he
  have hb2 : (n + m) * bytes ≤ 140737488355328 := Nat.le_trans (Nat.mul_le_mul hsmall hbytes) (by omega)
  cases A with
  | some ad =>
    obtain ⟨v', w', h2, h3, h4, _, h5⟩ := run_append_own_at (P := P) w B t ty e i z size bytes ht hi hz hs hby hzs hpos v n xs hown ad m c news hl
      (fun j u hu => by
        obtain ⟨hj, rfl⟩ := List.getElem?_eq_some_iff.1 hu
        obtain ⟨_, ⟨rfl⟩, hc⟩ := hr j hj
        exact hc) h1 (by simp only [maxLen]; omega) hb2 hB
    exact ⟨v', w', h2, h3, h4, h5⟩
  | none =>
    have hn : news = [] := by
      cases news with
      | nil => rfl
      | cons x l => obtain ⟨_, h, _⟩ := hr 0 (by simp); cases h
    subst hn
    have hm : m = 0 := by
      rcases Nat.eq_zero_or_pos m with h | h
      · exact h
      · have := Nat.mul_pos h hpos; simp at hl; omega
    subst hm
    refine ⟨v, w, ?_, by simpa using hown, World.grownBy.refl w _, .inl rfl⟩
    rcases hown.2 with ⟨rfl, rfl⟩ | ⟨g, cap, cur, rfl, _, _, hnc, _⟩
    · simp [Builtin.append_, run_underlying ht, sizeOf, typeInfo, hi, Builtin.lenOf, Builtin.firstCells]
    · simp [Builtin.append_, run_underlying ht, sizeOf, typeInfo, hi, Builtin.lenOf, Builtin.firstCells, hnc, storeCells]

theorem put_own {P : Program} {ops : Array Oper} {rest : List Oper} {o : Oper} {a : Act} {Q : Exit → Act → World → Prop} {w : World} (hgd : o.guard = none) (s x : Operand) {t : TypeId}
    (ho : o.op = .call { callee := .builtin .append, args := #[s, x], argTypes := #[t, t] })
    {e : TypeId} {size bytes : Nat} (ht : P.underlying t = some (.slice e)) (he : Elem P e size bytes)
    {B n m c : Nat} {v : Value} {xs news : List Value} {A : Option Addr} (hs : a.eval s = v) (hown : w.ownsRow B e size v n xs) (hx : a.eval x = .slice A m c) (hl : news.length = m * size) (hr : Row w A news)
    (h1 : ∀ u ∈ news, u.oneCell' = true) (hsmall : n + m ≤ 1099511627776) (hbytes : bytes ≤ 100) (hB : B ≤ w.heap.size)
    (h : ∀ v' w', w'.ownsRow B e size v' (n + m) (xs ++ news) → w.grownBy w' v.ownBlock → (v'.ownBlock = v.ownBlock ∨ v'.ownBlock = some w.heap.size) → wpList P ops Q rest (a.put o.dst v') w') : wpList P ops Q (o :: rest) a w := by
  obtain ⟨v', w', hrun, h2, h3, h4⟩ := put_run (P := P) w o.type ht he (c := c) hown hl hr h1 hsmall hbytes hB
  refine wpList_plain hgd fun K hK => ?_
  unfold Oper.wp execOp
  simp only [ho, resolve, invoke, builtin, Sem.run_bind, Sem.run_pure, Result.andThen_ok, List.map_toArray, List.map_cons, List.map_nil, hs, hx, hrun]
  exact hK _ _ (h v' w' h2 h3 h4)

end Go.Proofs.YtmfdlijkpdgimaaGreatDoor
