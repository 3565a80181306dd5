
/-
  The program's QueensOf: the rows that an iterator hands out, collected.
-/
import Derived.Test.YtlccohoblplddadPRows
namespace Go.Proofs.Ytlccohoblplddad
open Go.RowKit Go.Shelf
set_option linter.unusedVariables false
attribute [local go_sem] Oper.semAt_some

/-- An append to a row of one's own, inside a fence. -/
theorem put_ownIn {F : Fence} {n' : Nat} {P : Program} {ops : Array Oper} {rest : List Oper} {o : Oper} {a : Act} {Q : Exit → Act → World → Prop} {w : World} (hgd : o.guard = none) (s x : Operand) {t : TypeId}
    (ho : o.op = .call { callee := .builtin .append, args := #[s, x], argTypes := #[t, t] })
    {e : TypeId} {size bytes : Nat} (ht : P.underlying t = some (.slice e)) (he : Elem P e size bytes)
    {B n m c : Nat} {v : Value} {xs news : List Value} {A : Option Addr} (hs : a.eval s = v) (hown : w.ownsRow B e size v n xs) (hx : a.eval x = .slice A m c) (hl : news.length = m * size) (hr : Row w A news)
    (h1 : ∀ u ∈ news, u.oneCell' = true) (hsmall : n + m ≤ 1099511627776) (hbytes : bytes ≤ 100) (hB : B ≤ w.heap.size)
    (h : ∀ v' w', w'.ownsRow B e size v' (n + m) (xs ++ news) → w.grownBy w' v.ownBlock → (v'.ownBlock = v.ownBlock ∨ v'.ownBlock = some w.heap.size) → wpListIn F n' P ops Q rest (a.put o.dst v') w') : wpListIn F n' P ops Q (o :: rest) a w := by
  refine wpListIn_plain hgd fun K hK => ?_
  obtain ⟨v', w', hrun, h2, h3, h4⟩ := put_run (P := P) w o.type ht he (c := c) hown hl hr h1 hsmall hbytes hB
  unfold Oper.wpIn
  refine ⟨?_, ?_⟩
  · simp [Oper.about, ho, resolve, Target.leads, Sem.run_pure]
  · rw [Oper.semAt_plain F _ _ (by rw [ho]; intro c hc; cases hc)]
    simp [execOp, ho, resolve, invoke, builtin, hs, hx, hrun, Result.andThen]
    exact hK _ _ (h v' w' h2 h3 h4)
/-- What is owned stands where its own block does. -/
theorem own_same {w w' : World} {base e size n : Nat} {v : Value} {xs : List Value} (h : w.ownsRow base e size v n xs) (hs : ∀ g, v.ownBlock = some g → w'.heap[g]? = w.heap[g]?) : w'.ownsRow base e size v n xs := by
  obtain ⟨hl, ⟨rfl, h0⟩ | ⟨g, cap, cur, rfl, hb, hg, rest⟩⟩ := h
  · exact ⟨hl, .inl ⟨rfl, h0⟩⟩
  · exact ⟨hl, .inr ⟨g, cap, cur, rfl, hb, (hs g rfl).trans hg, rest⟩⟩
/-- Rows of one type are not those of another. -/
theorem own_type {w : World} {base e size n : Nat} {v : Value} {xs : List Value} (h : w.ownsRow base e size v n xs) {g : Nat} (hg : v.ownBlock = some g) : ∃ cur, w.heap[g]? = some (.cells cur e (0, 0)) := by
  obtain ⟨hl, ⟨rfl, h0⟩ | ⟨g', cap, cur, rfl, hb, hg', rest⟩⟩ := h
  · cases hg
  · injection hg with hg; subst hg; exact ⟨cur, hg'⟩

/-- vs are slices, each of which owns a row of L. -/
def Rows1 (D : Nat) (W : World) (vs : List Value) (L : List (List Int)) : Prop := vs.length = L.length ∧ ∀ i (h : i < L.length), ∃ A c, vs[i]? = some (.slice A (L[i]).length c) ∧ W.ownsRow D 3 1 (.slice A (L[i]).length c) (L[i]).length (ints L[i])
def Apart (vs : List Value) : Prop := ∀ (i j : Nat) (u v : Value) (g : Nat), vs[i]? = some u → vs[j]? = some v → u.ownBlock = some g → v.ownBlock = some g → i = j
def Owned (X : Nat) (v : Value) (vs : List Value) : Blocks := fun g => g = X ∨ v.ownBlock = some g ∨ ∃ u ∈ vs, u.ownBlock = some g
theorem Rows1.mem {D : Nat} {W : World} {vs : List Value} {L : List (List Int)} (h : Rows1 D W vs L) : ∀ u ∈ vs, ∃ x A c, u = .slice A x.length c ∧ W.ownsRow D 3 1 u x.length (ints x) := fun u hu => by
  obtain ⟨i, hi, rfl⟩ := List.getElem_of_mem hu
  obtain ⟨A, c, e, ho⟩ := h.2 i (by rw [← h.1]; exact hi)
  rw [List.getElem?_eq_getElem hi] at e
  injection e with e
  exact ⟨_, A, c, e, by rw [e]; exact ho⟩
theorem Rows1.same {D : Nat} {W W' : World} {vs : List Value} {L : List (List Int)} (h : Rows1 D W vs L) (hs : ∀ u ∈ vs, ∀ g, u.ownBlock = some g → W'.heap[g]? = W.heap[g]?) : Rows1 D W' vs L :=
  ⟨h.1, fun i hi => by
    obtain ⟨A, c, e, ho⟩ := h.2 i hi
    exact ⟨A, c, e, own_same ho (hs _ (List.mem_of_getElem? e))⟩⟩
theorem Rows1.nil (D : Nat) (W : World) : Rows1 D W [] [] := ⟨rfl, fun i h => by simp at h⟩
theorem Rows1.snoc {D : Nat} {W : World} {vs : List Value} {L : List (List Int)} {x : List Int} {A : Option Addr} {c : Nat} (h : Rows1 D W vs L) (hx : W.ownsRow D 3 1 (.slice A x.length c) x.length (ints x)) : Rows1 D W (vs ++ [.slice A x.length c]) (L ++ [x]) :=
  ⟨by simp [h.1], fun i hi => by
    by_cases hl : i < L.length
    · obtain ⟨A', c', e, ho⟩ := h.2 i hl
      refine ⟨A', c', ?_, ?_⟩
      · rw [List.getElem_append_left hl, List.getElem?_append_left (by rw [h.1]; exact hl)]; exact e
      · rw [List.getElem_append_left hl]; exact ho
    · have : i = L.length := by simp at hi; omega
      subst this
      refine ⟨A, c, ?_, ?_⟩
      · rw [List.getElem?_append_right (by rw [h.1]; exact Nat.le_refl _)]; simp [h.1]
      · simpa using hx⟩
theorem Apart.snoc {vs : List Value} {u : Value} (h : Apart vs) (hu : ∀ v ∈ vs, ∀ g, v.ownBlock = some g → u.ownBlock ≠ some g) : Apart (vs ++ [u]) := fun i j a b g ha hb ga gb => by
  have key : ∀ k a, (vs ++ [u])[k]? = some a → (k < vs.length ∧ vs[k]? = some a) ∨ (k = vs.length ∧ a = u) := fun k a e => by
    by_cases hk : k < vs.length
    · rw [List.getElem?_append_left hk] at e; exact .inl ⟨hk, e⟩
    · rw [List.getElem?_append_right (by omega)] at e
      have : k - vs.length = 0 := by
        have := (List.getElem?_eq_some_iff.1 e).1
        simp at this; omega
      rw [this] at e
      simp at e
      exact .inr ⟨by omega, e.symm⟩
  rcases key i a ha with ⟨_, h1⟩ | ⟨h1, rfl⟩ <;> rcases key j b hb with ⟨_, h2⟩ | ⟨h2, rfl⟩
  · exact h i j a b g h1 h2 ga gb
  · exact absurd gb (hu a (List.mem_of_getElem? h1) g ga)
  · exact absurd ga (hu b (List.mem_of_getElem? h2) g gb)
  · omega
theorem Offers.later {P : Program} {g : Nat} {lb : Array Value} {D : Nat} {L : List (List Int)} {G : Blocks} {w w' : World} (h : Offers P g lb D L G w) (hb : Below w.heap.size w w') : Offers P g lb D L G w' :=
  fun l J S0 W hW => h l J S0 W (hb.trans (hW.mono hb.size))
/-- It hands back a row of its own of rows of their own, all apart. -/
def Rowset (D : Nat) (L : List (List Int)) (w : World) (e : Ending) (w' : World) : Prop := ∃ v vs, e = .returned v ∧ w'.ownsRow w.heap.size 27 1 v vs.length vs ∧ Rows1 D w' vs L ∧ Apart vs ∧ Below w.heap.size w w'

set_option maxHeartbeats 2000000 in
set_option maxRecDepth 100000 in
theorem appendSeq_c (gf : Nat) (lb : Array Value) (eg : ∀ args w, (callFunc gf args).run Try.prog w = .ok (.enter gf args) w) (D : Nat) (L : List (List Int)) (G : Blocks) (w : World) (hoff : Offers Try.prog gf lb D L G w) (hG : ∀ g, G g → g < w.heap.size) (hL : L.length ≤ 1000000) :
    Calls Try.prog 45 #[.slice none 0 0, .func (.func gf) #[] lb] w (Rowset D L w) := by
  have hb1 : Below w.heap.size w (w.alloc (.cells #[.slice none 0 0] 24)) := (Below.refl _ w).alloc (Nat.le_refl _) _
  have bX := Boxed.new w 24 (.slice none 0 0)
  refine (callsIn_wide (n := 9)).1 (callsIn_of_wp_marks Try.func45 rfl trivial ?_)
  simp only [Try.ntmps45, List.size_toArray, List.length_cons, List.length_nil, Nat.reduceAdd, Nat.reduceSub, Array.replicate_succ, Array.replicate_zero, List.push_toArray, List.append_toArray, List.nil_append, List.cons_append]
  gi_wp2
  refine range_offers (gf := gf) (lb := lb) rfl eg (hoff.later hb1) rfl
    (fun pre S W => ∃ v vs, S = Owned w.heap.size v vs ∧ Boxed W w.heap.size 24 v ∧ W.ownsRow w.heap.size 27 1 v vs.length vs ∧ Rows1 D W vs pre ∧ Apart vs ∧ Below w.heap.size w W) (Owned w.heap.size (.slice none 0 0) [])
    ?abide ?bounded ?guard ⟨_, [], rfl, bX, World.ownsRow_nil _ _ _ _, Rows1.nil _ _, fun i j u v g e => by simp at e, hb1⟩
    (fun v => { tmps := #[.slice none 0 0, .func (.func gf) #[] lb, .pointer (some ⟨w.heap.size, 0, none⟩), undef, .slice none 0 0, v, .func (.func gf) #[] lb, v, undef, undef, undef, undef, undef], defers := [] }) ?assign ?body ?done
  case abide =>
    rintro s X Y row ⟨v, vs, hS, hv, hr, hrs, hap, hb⟩ hg hrow
    have hne : ∀ k o, X.heap[k]? = some o → o.isCells = true → some k ≠ row := fun k o ho hc e => by
      obtain ⟨_, o', ho', hc'⟩ := hrow k e.symm
      rw [ho] at ho'; cases ho'; rw [hc] at hc'; cases hc'
    have hsame : ∀ {e n xs} {u : Value}, X.ownsRow D e 1 u n xs → ∀ g, u.ownBlock = some g → Y.heap[g]? = X.heap[g]? := fun ho g eg => by
      obtain ⟨cur, hc⟩ := own_type ho eg
      exact hg.block g (Array.getElem?_eq_some_iff.1 hc).1 (hne g _ hc rfl)
    refine ⟨v, vs, hS, hv.kept hg (hne _ _ hv rfl), own_same hr (fun g eg => ?_), hrs.same (fun u hu g eg => ?_), hap, ?_⟩
    · obtain ⟨cur, hc⟩ := own_type hr eg
      exact hg.block g (Array.getElem?_eq_some_iff.1 hc).1 (hne g _ hc rfl)
    · obtain ⟨x, A, c, _, ho⟩ := hrs.mem u hu
      exact hsame ho g eg
    · exact hb.grown hg hb.size (fun k e => by have := (hrow k e).1; simp at this; omega)
  case bounded =>
    rintro pre S W ⟨v, vs, rfl, hv, hr, hrs, _, _⟩ g (rfl | h | ⟨u, hu, h⟩)
    · exact hv.lt
    · exact (hr.lt g h).2
    · obtain ⟨x, A, c, _, ho⟩ := hrs.mem u hu
      exact (ho.lt g h).2
  case guard =>
    rintro g hg (rfl | h | ⟨u, hu, h⟩)
    · exact absurd (hG _ hg) (by omega)
    · cases h
    · cases hu
  case assign =>
    intro l v W K hK
    gi_wp2
    exact hK
  case body =>
    rintro l pre S x A c W hsz ⟨v, vs, hS, hv, hr, hrs, hap, hb⟩ hx hpre
    have hc := hv.cell
    have hvl : vs.length + 1 ≤ L.length := by
      have := hpre.length_le
      rw [hrs.1]; simpa using this
    have hfr := hr.alloc (.cells #[.slice A x.length c] 27)
    have hrow : Row (W.alloc (.cells #[.slice A x.length c] 27)) (some ⟨W.heap.size, 0, none⟩) [.slice A x.length c] := row_new W #[.slice A x.length c] 27 rfl
    gi_wp2_with (gi_at_builtin; refine put_ownIn rfl (.tmp 8) (.tmp 10) rfl Try.underlying24 elem_rows rfl hfr rfl (m := 1) (news := [.slice A x.length c]) rfl hrow (by simp [Value.oneCell']) (by omega) (by omega) (by have := hb.size; simp; omega) ?_; intro v' w1 hown' hgrow hblk; obtain ⟨g', cap', rfl⟩ := ownsRow_succ hown'; obtain ⟨hv1, hv2, hr2, hk2, hb2⟩ := hv.appended (by decide) hr hb.size (Nat.le_refl _) hown' hgrow; have hc1 := hv1.cell; have hf1 := hv1.frozen)
    have key : ∀ k o, W.heap[k]? = some o → k ≠ w.heap.size → v.ownBlock ≠ some k → (w1.setCell ⟨w.heap.size, 0, none⟩ (.slice (some ⟨g', 0, none⟩) (vs.length + 1) cap')).heap[k]? = some o := fun k o hk h1 h2 => by
      have hlt := (Array.getElem?_eq_some_iff.1 hk).1
      rw [Below.heap_setCell w1 ⟨w.heap.size, 0, none⟩ _ k h1, hgrow.block k (by simp; omega) (fun e => h2 e.symm), Below.heap_alloc W _ k hlt]
      exact hk
    have hxo : W.ownsRow D 3 1 (.slice A x.length c) x.length (ints x) := hx.1
    have hrow3 : ∀ {y : List Int} {u : Value}, W.ownsRow D 3 1 u y.length (ints y) → ∀ g, u.ownBlock = some g → g ≠ w.heap.size ∧ v.ownBlock ≠ some g := fun ho g eg => by
      obtain ⟨cur, hcur⟩ := own_type ho eg
      refine ⟨fun e => ?_, fun e => ?_⟩
      · subst e
        have := (show W.heap[w.heap.size]? = _ from hv).symm.trans hcur
        simp at this
      · obtain ⟨cur', hcur'⟩ := own_type hr e
        rw [hcur] at hcur'
        simp at hcur'
    have hmem : ∀ u ∈ vs, ∀ g, u.ownBlock = some g → W.heap[g]? = (w1.setCell ⟨w.heap.size, 0, none⟩ (.slice (some ⟨g', 0, none⟩) (vs.length + 1) cap')).heap[g]? := fun u hu g eg => by
      obtain ⟨y, A', c', _, ho⟩ := hrs.mem u hu
      obtain ⟨h1, h2⟩ := hrow3 ho g eg
      obtain ⟨cur, hcur⟩ := own_type ho eg
      rw [hcur]; exact (key g _ hcur h1 h2).symm
    refine ⟨Owned w.heap.size (.slice (some ⟨g', 0, none⟩) (vs.length + 1) cap') (vs ++ [.slice A x.length c]), ⟨hk2.size, fun k o ho hc hn he => ?_, fun k o _ ho hc => hk2.same k o ho hc⟩, _, vs ++ [.slice A x.length c], rfl, hv2, by simpa using hr2, ?_, ?_, hb.trans hb2⟩
    · rw [hS] at hn
      have hn1 : k ≠ w.heap.size := fun e => hn (.inl e)
      have hn2 : v.ownBlock ≠ some k := fun e => hn (.inr (.inl e))
      have hlt := (Array.getElem?_eq_some_iff.1 ho).1
      refine ⟨key k o ho hn1 hn2, ?_⟩
      rintro (e | e | ⟨u, hu, e⟩)
      · exact hn1 e
      · rcases hblk with hb' | hb'
        · rw [hb'] at e; exact hn2 e
        · rw [hb'] at e; injection e with e; simp at e; omega
      · rcases List.mem_append.1 hu with h | h
        · exact hn (.inr (.inr ⟨u, h, e⟩))
        · rw [List.mem_singleton.1 h] at e; exact he e
    · refine Rows1.snoc (hrs.same fun u hu g eg => (hmem u hu g eg).symm) (own_same hxo fun g eg => ?_)
      obtain ⟨h1, h2⟩ := hrow3 hxo g eg
      obtain ⟨cur, hcur⟩ := own_type hxo eg
      rw [hcur]; exact key g _ hcur h1 h2
    · exact hap.snoc fun u hu g eg e => hx.2 g e (by rw [hS]; exact .inr (.inr ⟨u, hu, eg⟩))
  case done =>
    rintro D' S W hD ⟨v, vs, hS, hv, hr, hrs, hap, hb⟩ hDx
    have hc := hv.cell
    obtain ⟨A, c, rfl, _⟩ := own_row hr
    gi_wp2
    have hput : ∀ (k : Nat) (o : Obj), W.heap[k]? = some o → o.isCells = true → (W.putObj D' (.deferred none)).heap[k]? = W.heap[k]? := fun k o ho hc => World.putObj_heap_other (fun e => by subst e; rw [ho] at hDx; cases hDx; cases hc)
    refine ⟨by simp, .inl ⟨D', _, rfl, run_takeDeferred hDx, ?_⟩⟩
    refine ⟨_, results_tmp rfl _ _ _, _, vs, rfl, own_same hr (fun g eg => ?_), hrs.same (fun u hu g eg => ?_), hap, ?_⟩
    · obtain ⟨cur, hcur⟩ := own_type hr eg
      exact hput g _ hcur rfl
    · obtain ⟨x, A, c, _, ho⟩ := hrs.mem u hu
      obtain ⟨cur, hcur⟩ := own_type ho eg
      exact hput g _ hcur rfl
    · exact hb.trans (belowK_b (w := w) (Nat.le_refl _) W D' _ _ (by simp at hD; omega) hDx rfl rfl)
theorem collect_c (gf : Nat) (lb : Array Value) (eg : ∀ args w, (callFunc gf args).run Try.prog w = .ok (.enter gf args) w) (D : Nat) (L : List (List Int)) (G : Blocks) (w : World) (hoff : Offers Try.prog gf lb D L G w) (hG : ∀ g, G g → g < w.heap.size) (hL : L.length ≤ 1000000) :
    Calls Try.prog 29 #[.func (.func gf) #[] lb] w (Rowset D L w) := by
  have H := hide (appendSeq_c gf lb eg D L G w hoff hG hL)
  clear hoff hG
  go_enter Try.func29, Try.ntmps29
  go_wp2_with fail
  refine H.out.mono ?_
  rintro e w1 ⟨v, vs, rfl, own, rest⟩
  obtain ⟨A, c, rfl, _⟩ := own_row own
  go_wp2_with fail
  go_ret
  exact ⟨_, vs, rfl, own, rest⟩
theorem fitP_nil : fitP [] = apartP := by
  funext head c
  unfold fitP
  rw [if_neg (fun h => by have := h.1; simp at this)]
/-- What queensBehind has laid, and offers. -/
theorem behind_offer (n : Nat) (h1 : 1 ≤ n) (h6 : n ≤ 6) (first : List Int) (hf6 : first.length ≤ 6) (A0 : Option Addr) (c0 : Nat) (w w' : World) (hr0 : Row w A0 (ints first))
    (hw : w' = (((w.alloc (.cells #[.slice A0 first.length c0] 27)).alloc (.cells #[.int .i64 (n : Int)] 3)).alloc (.cells #[.slice none 0 0] 27)).alloc (.cells #[.func (.func 47) #[] #[.pointer (some ⟨w.heap.size, 0, none⟩)]] 44)) :
    Below w.heap.size w w' ∧ w'.heap.size = w.heap.size + 4 ∧ Offers Try.prog 58 #[.pointer (some ⟨w.heap.size + 2, 0, none⟩), .pointer (some ⟨w.heap.size + 1, 0, none⟩), .pointer (some ⟨w.heap.size + 3, 0, none⟩)] w.heap.size (rowsP n (fitP first) n []) (Its (w.heap.size + 2) (w.heap.size + 1) (w.heap.size + 3) w.heap.size none (if first = [] then none else A0)) w' := by
  have hb : Below w.heap.size w w' := by
    rw [hw]
    exact ((((Below.refl _ w).alloc (Nat.le_refl _) _).alloc (by simp) _).alloc (by simp; omega) _).alloc (by simp; omega) _
  have hsz : w'.heap.size = w.heap.size + 4 := by rw [hw]; simp
  refine ⟨hb, hsz, rows_offer n h1 h6 first hf6 w.heap.size A0 c0 n [] none 0 _ _ _ w.heap.size w' (by simp) (fun i hi => absurd hi (by simp)) ?_ hb.size⟩
  subst hw
  refine ⟨⟨?_, fun h => h⟩, ⟨?_, fun h => h⟩, ⟨?_, fun h => h⟩, ⟨World.ownsRow_nil _ _ _ _, fun _ _ h => h⟩, ⟨?_, fun h => h⟩, ⟨hr0.below hb, fun _ _ _ h => h⟩⟩
  · have := Boxed.new ((w.alloc (.cells #[.slice A0 first.length c0] 27)).alloc (.cells #[.int .i64 (n : Int)] 3)) 27 (.slice none 0 0)
    rw [World.size_alloc, World.size_alloc] at this
    exact this.alloc _
  · have := Boxed.new (w.alloc (.cells #[.slice A0 first.length c0] 27)) 3 (.int .i64 (n : Int))
    rw [World.size_alloc] at this
    exact (this.alloc _).alloc _
  · have := Boxed.new (((w.alloc (.cells #[.slice A0 first.length c0] 27)).alloc (.cells #[.int .i64 (n : Int)] 3)).alloc (.cells #[.slice none 0 0] 27)) 44 (.func (.func 47) #[] #[.pointer (some ⟨w.heap.size, 0, none⟩)])
    rw [World.size_alloc, World.size_alloc, World.size_alloc] at this
    exact this
  · exact (((Boxed.new w 27 (.slice A0 first.length c0)).alloc _).alloc _).alloc _
theorem Rowset.from {D : Nat} {L : List (List Int)} {w w1 : World} {e : Ending} {w' : World} (h : Rowset D L w1 e w') (hb : Below w.heap.size w w1) : Rowset D L w e w' := by
  obtain ⟨v, vs, he, own, rs, ap, b⟩ := h
  exact ⟨v, vs, he, own_mono own hb.size, rs, ap, below_then hb hb.size b⟩
set_option maxHeartbeats 1000000 in
theorem implQueensOf_c (n : Int) (w : World) : Calls Try.prog 8 #[.int .i64 n] w (Rowset w.heap.size (queensOfP n) w) := by
  have HT := hide (fun w5 => fitQueens_c n w5)
  by_cases h : 1 ≤ n ∧ n ≤ 6
  · rw [decide_eq_true h] at HT
    have HL : Hid (queensOfP n = queensP n.toNat n.toNat []) := by show _ = _; unfold queensOfP; rw [if_pos h]
    obtain ⟨k, rfl⟩ := Int.eq_ofNat_of_zero_le (show 0 ≤ n by omega)
    have h1 : 1 ≤ k := by omega
    have h6 : k ≤ 6 := by omega
    have HQ := hide (queensBehind_c (k : Int) none 0 0 w)
    have HO := hide (fun w' hw => behind_offer k h1 h6 [] (by simp) none 0 w w' (Row.empty _ _) hw)
    have hlen : (queensP k k []).length ≤ 1000000 := Nat.le_trans (queens_len k k []) (Nat.le_trans (Nat.pow_le_pow_left h6 k) (Nat.le_trans (Nat.pow_le_pow_right (n := 6) (by omega) h6) (by decide)))
    rw [fitP_nil, rowsP_queens] at HO
    rw [HL.out]
    show Calls Try.prog 8 #[.int .i64 (k : Int)] w (Rowset w.heap.size (queensP k k []) w)
    generalize queensP k k [] = L at *
    clear h HL
    go_enter Try.func8, Try.ntmps8
    go_wp2_with fail
    refine (HT.out _).mono ?_
    rintro e w1 ⟨rfl, rfl⟩
    go_wp2_with fail
    refine HQ.out.mono ?_
    rintro e w2 ⟨rfl, hw2⟩
    obtain ⟨b2, z2, off⟩ := HO.out w2 hw2
    have HC := hide (collect_c 58 _ (enters_of Try.func58 (by kernel_rfl) rfl) w.heap.size L _ w2 off (by
      rintro g (rfl | rfl | rfl | rfl | ⟨ad, e, _⟩ | ⟨ad, e, _⟩)
      · omega
      · omega
      · omega
      · omega
      · cases e
      · simp at e) hlen)
    clear hw2 off
    go_wp2_with fail
    refine HC.out.mono ?_
    rintro e w3 ⟨v, vs, rfl, own, rs, ap, b3⟩
    obtain ⟨A, c, rfl, _⟩ := own_row own
    go_wp2_with fail
    go_ret
    exact ⟨_, vs, rfl, own_mono own b2.size, rs, ap, below_then b2 b2.size b3⟩
  · rw [decide_eq_false h] at HT
    have HL : Hid (queensOfP n = []) := by show _ = _; unfold queensOfP; rw [if_neg h]
    rw [HL.out]
    clear h HL
    go_enter Try.func8, Try.ntmps8
    go_wp2_with fail
    refine (HT.out _).mono ?_
    rintro e w1 ⟨rfl, rfl⟩
    go_wp2_with fail
    go_ret
    exact ⟨_, [], rfl, World.ownsRow_nil _ _ _ _, Rows1.nil _ _, fun i j u v g e => by simp at e, Below.refl _ _⟩
end Go.Proofs.Ytlccohoblplddad
