
/-
  The program's QueensOf: the rows that an iterator hands out, collected.
-/
import Derived.Test.YtgcchpabmkdkhabPRows
namespace Go.Proofs.Ytgcchpabmkdkhab
open Go.RowKit Go.Shelf
set_option linter.unusedVariables false
attribute [local go_sem] Oper.semAt_some

/-- An append to a row of one's own, inside a fence. -/
theorem put_ownIn {F : Fence} {n' : Nat} {P : Program} {ops : Array Oper} {rest : List Oper} {o : Oper} {a : Act} {Q : Exit → Act → World → Prop} {w : World} (hgd : o.guard = none) (s x : Operand) {t : TypeId}
    (ho : o.op = .call { callee := .builtin .append, args := #[s, x], argTypes := #[t, t] })
    {e : TypeId} {size bytes : Nat} (ht : P.underlying t = some (.slice e)) (he : Elem P e size bytes)
    {B n m c : Nat} {v : Value} {xs news : List Value} {A : Option Addr} (hs : a.eval s = v) (hown : w.ownsRow B e size v n xs) (hx : a.eval x = .slice A m c) (hl : news.length = m * size) (hr : Row w A news)
    (h1 : ∀ u ∈ news, u.oneCell' = true) (hsmall : n + m ≤ 1099511627776) (hbytes : bytes ≤ 100) (hB : B ≤ w.heap.size)
    (h : ∀ v' w', w'.ownsRow B e size v' (n + m) (xs ++ news) → w.grownBy w' v.ownBlock → (v'.ownBlock = v.ownBlock ∨ v'.ownBlock = some w.heap.size) → wpListIn F n' P ops Q rest (a.put o.dst v') w') : wpListIn F n' P ops Q (o :: rest) a w := by
  refine wpListIn_plain hgd fun K hK => ?_
  obtain ⟨v', w', hrun, h2, h3, h4⟩ := put_run (P := P) w o.type ht he (c := c) hown hl hr h1 hsmall hbytes hB
  unfold Oper.wpIn
  refine ⟨?_, ?_⟩
  · simp [Oper.about, ho, resolve, Target.leads, Sem.run_pure]
  · rw [Oper.semAt_plain F _ _ (by rw [ho]; intro c hc; cases hc)]
    simp [execOp, ho, resolve, invoke, builtin, hs, hx, hrun, Result.andThen]
    exact hK _ _ (h v' w' h2 h3 h4)
/-- What is owned stands where its own block does. -/
theorem own_same {w w' : World} {base e size n : Nat} {v : Value} {xs : List Value} (h : w.ownsRow base e size v n xs) (hs : ∀ g, v.ownBlock = some g → w'.heap[g]? = w.heap[g]?) : w'.ownsRow base e size v n xs := by
  obtain ⟨hl, ⟨rfl, h0⟩ | ⟨g, cap, cur, rfl, hb, hg, rest⟩⟩ := h
  · exact ⟨hl, .inl ⟨rfl, h0⟩⟩
  · exact ⟨hl, .inr ⟨g, cap, cur, rfl, hb, (hs g rfl).trans hg, rest⟩⟩
/-- Rows of one type are not those of another. -/
theorem own_type {w : World} {base e size n : Nat} {v : Value} {xs : List Value} (h : w.ownsRow base e size v n xs) {g : Nat} (hg : v.ownBlock = some g) : ∃ cur, w.heap[g]? = some (.cells cur e (0, 0)) := by
  obtain ⟨hl, ⟨rfl, h0⟩ | ⟨g', cap, cur, rfl, hb, hg', rest⟩⟩ := h
  · cases hg
  · injection hg with hg; subst hg; exact ⟨cur, hg'⟩

/-- vs are slices, each of which owns a row of L. -/
def Rows1 (D : Nat) (W : World) (vs : List Value) (L : List (List Int)) : Prop := vs.length = L.length ∧ ∀ i (h : i < L.length), ∃ A c, vs[i]? = some (.slice A (L[i]).length c) ∧ W.ownsRow D 3 1 (.slice A (L[i]).length c) (L[i]).length (ints L[i])
def Apart (vs : List Value) : Prop := ∀ (i j : Nat) (u v : Value) (g : Nat), vs[i]? = some u → vs[j]? = some v → u.ownBlock = some g → v.ownBlock = some g → i = j
def Owned (X : Nat) (v : Value) (vs : List Value) : Blocks := fun g => g = X ∨ v.ownBlock = some g ∨ ∃ u ∈ vs, u.ownBlock = some g
theorem Rows1.mem {D : Nat} {W : World} {vs : List Value} {L : List (List Int)} (h : Rows1 D W vs L) : ∀ u ∈ vs, ∃ x A c, u = .slice A x.length c ∧ W.ownsRow D 3 1 u x.length (ints x) := fun u hu => by
  obtain ⟨i, hi, rfl⟩ := List.getElem_of_mem hu
  obtain ⟨A, c, e, ho⟩ := h.2 i (by rw [← h.1]; exact hi)
  rw [List.getElem?_eq_getElem hi] at e
  injection e with e
  exact ⟨_, A, c, e, by rw [e]; exact ho⟩
theorem Rows1.same {D : Nat} {W W' : World} {vs : List Value} {L : List (List Int)} (h : Rows1 D W vs L) (hs : ∀ u ∈ vs, ∀ g, u.ownBlock = some g → W'.heap[g]? = W.heap[g]?) : Rows1 D W' vs L :=
  ⟨h.1, fun i hi => by
    obtain ⟨A, c, e, ho⟩ := h.2 i hi
    exact ⟨A, c, e, own_same ho (hs _ (List.mem_of_getElem? e))⟩⟩
theorem Rows1.nil (D : Nat) (W : World) : Rows1 D W [] [] := ⟨rfl, fun i h => by simp at h⟩
theorem Rows1.snoc {D : Nat} {W : World} {vs : List Value} {L : List (List Int)} {x : List Int} {A : Option Addr} {c : Nat} (h : Rows1 D W vs L) (hx : W.ownsRow D 3 1 (.slice A x.length c) x.length (ints x)) : Rows1 D W (vs ++ [.slice A x.length c]) (L ++ [x]) :=
  ⟨by simp [h.1], fun i hi => by
    by_cases hl : i < L.length
    · obtain ⟨A', c', e, ho⟩ := h.2 i hl
      refine ⟨A', c', ?_, ?_⟩
      · rw [List.getElem_append_left hl, List.getElem?_append_left (by rw [h.1]; exact hl)]; exact e
      · rw [List.getElem_append_left hl]; exact ho
    · have : i = L.length := by simp at hi; omega
      subst this
      refine ⟨A, c, ?_, ?_⟩
      · rw [List.getElem?_append_right (by rw [h.1]; exact Nat.le_refl _)]; simp [h.1]
      · simpa using hx⟩
theorem Apart.snoc {vs : List Value} {u : Value} (h : Apart vs) (hu : ∀ v ∈ vs, ∀ g, v.ownBlock = some g → u.ownBlock ≠ some g) : Apart (vs ++ [u]) := fun i j a b g ha hb ga gb => by
  have key : ∀ k a, (vs ++ [u])[k]? = some a → (k < vs.length ∧ vs[k]? = some a) ∨ (k = vs.length ∧ a = u) := fun k a e => by
    by_cases hk : k < vs.length
    · rw [List.getElem?_append_left hk] at e; exact .inl ⟨hk, e⟩
    · rw [List.getElem?_append_right (by omega)] at e
      have : k - vs.length = 0 := by
        have := (List.getElem?_eq_some_iff.1 e).1
        simp at this; omega
      rw [this] at e
      simp at e
      exact .inr ⟨by omega, e.symm⟩
  rcases key i a ha with ⟨_, h1⟩ | ⟨h1, rfl⟩ <;> rcases key j b hb with ⟨_, h2⟩ | ⟨h2, rfl⟩
  · exact h i j a b g h1 h2 ga gb
  · exact absurd gb (hu a (List.mem_of_getElem? h1) g ga)
  · exact absurd ga (hu b (List.mem_of_getElem? h2) g gb)
  · omega
theorem Offers.later {P : Program} {g : Nat} {lb : Array Value} {D : Nat} {L : List (List Int)} {G : Blocks} {w w' : World} (h : Offers P g lb D L G w) (hb : Below w.heap.size w w') : Offers P g lb D L G w' :=
  fun l J S0 W hW => h l J S0 W (hb.trans (hW.mono hb.size))
/-- It hands back a row of its own of rows of their own, all apart. -/
def Rowset (D : Nat) (L : List (List Int)) (w : World) (e : Ending) (w' : World) : Prop := ∃ v vs, e = .returned v ∧ w'.ownsRow w.heap.size 23 1 v vs.length vs ∧ Rows1 D w' vs L ∧ Apart vs ∧ Below w.heap.size w w'

theorem fitP_nil : fitP [] = apartP := by
  funext head c
  unfold fitP
  rw [if_neg (fun h => by have := h.1; simp at this)]
/-- What queensBehind has laid, and offers. -/
theorem behind_offer (n : Nat) (h1 : 1 ≤ n) (h6 : n ≤ 6) (first : List Int) (hf6 : first.length ≤ 6) (A0 : Option Addr) (c0 : Nat) (w w' : World) (hr0 : Row w A0 (ints first))
    (hw : w' = (((w.alloc (.cells #[.slice A0 first.length c0] 23)).alloc (.cells #[.int .i64 (n : Int)] 3)).alloc (.cells #[.slice none 0 0] 23)).alloc (.cells #[.func (.func 38) #[] #[.pointer (some ⟨w.heap.size, 0, none⟩)]] 36)) :
    Below w.heap.size w w' ∧ w'.heap.size = w.heap.size + 4 ∧ Offers Try.prog 43 #[.pointer (some ⟨w.heap.size + 2, 0, none⟩), .pointer (some ⟨w.heap.size + 1, 0, none⟩), .pointer (some ⟨w.heap.size + 3, 0, none⟩)] w.heap.size (rowsP n (fitP first) n []) (Its (w.heap.size + 2) (w.heap.size + 1) (w.heap.size + 3) w.heap.size none (if first = [] then none else A0)) w' := by
  have hb : Below w.heap.size w w' := by
    rw [hw]
    exact ((((Below.refl _ w).alloc (Nat.le_refl _) _).alloc (by simp) _).alloc (by simp; omega) _).alloc (by simp; omega) _
  have hsz : w'.heap.size = w.heap.size + 4 := by rw [hw]; simp
  refine ⟨hb, hsz, rows_offer n h1 h6 first hf6 w.heap.size A0 c0 n [] none 0 _ _ _ w.heap.size w' (by simp) (fun i hi => absurd hi (by simp)) ?_ hb.size⟩
  subst hw
  refine ⟨⟨?_, fun h => h⟩, ⟨?_, fun h => h⟩, ⟨?_, fun h => h⟩, ⟨World.ownsRow_nil _ _ _ _, fun _ _ h => h⟩, ⟨?_, fun h => h⟩, ⟨hr0.below hb, fun _ _ _ h => h⟩⟩
  · have := Boxed.new ((w.alloc (.cells #[.slice A0 first.length c0] 23)).alloc (.cells #[.int .i64 (n : Int)] 3)) 23 (.slice none 0 0)
    rw [World.size_alloc, World.size_alloc] at this
    exact this.alloc _
  · have := Boxed.new (w.alloc (.cells #[.slice A0 first.length c0] 23)) 3 (.int .i64 (n : Int))
    rw [World.size_alloc] at this
    exact (this.alloc _).alloc _
  · have := Boxed.new (((w.alloc (.cells #[.slice A0 first.length c0] 23)).alloc (.cells #[.int .i64 (n : Int)] 3)).alloc (.cells #[.slice none 0 0] 23)) 36 (.func (.func 38) #[] #[.pointer (some ⟨w.heap.size, 0, none⟩)])
    rw [World.size_alloc, World.size_alloc, World.size_alloc] at this
    exact this
  · exact (((Boxed.new w 23 (.slice A0 first.length c0)).alloc _).alloc _).alloc _
theorem Rowset.from {D : Nat} {L : List (List Int)} {w w1 : World} {e : Ending} {w' : World} (h : Rowset D L w1 e w') (hb : Below w.heap.size w w1) : Rowset D L w e w' := by
  obtain ⟨v, vs, he, own, rs, ap, b⟩ := h
  exact ⟨v, vs, he, own_mono own hb.size, rs, ap, below_then hb hb.size b⟩
end Go.Proofs.Ytgcchpabmkdkhab
