
/-
  Rows of rows of numbers in memory: read, owned, apart; the laws' own words over them (equal, less, marked, held).
-/
import Derived.Test.YtgbbmnnpphkkbaaSpecC
import Derived.Test.YtgbbmnnpphkkbaaLawWords
import Derived.Test.YtgbbmnnpphkkbaaOwnWords
namespace Go.Proofs.Ytgbbmnnpphkkbaa
open Go.RowKit
set_option linter.unusedVariables false

/-- A slice of so many numbers has room for them. -/
def Room (n c : Nat) : Prop := n ≤ c ∧ c ≤ maxLen
/-- vs are slices, from block B on, that read as the lists L. -/
def Reads (w : World) (B : Nat) (vs : List Value) (L : List (List Int)) : Prop := vs.length = L.length ∧ ∀ i (h : i < L.length), ∃ A c, vs[i]? = some (.slice A (L[i]).length c) ∧ Row w A (ints L[i]) ∧ From B A ∧ Room (L[i]).length c
theorem Reads.below {w w' : World} {B : Nat} {vs : List Value} {L : List (List Int)} (h : Reads w B vs L) (hb : Below w.heap.size w w') : Reads w' B vs L :=
  ⟨h.1, fun i hi => by obtain ⟨A, c, e, hr, hf⟩ := h.2 i hi; exact ⟨A, c, e, hr.below hb, hf⟩⟩
theorem Reads.mono {w : World} {B B' : Nat} {vs : List Value} {L : List (List Int)} (h : Reads w B vs L) (hb : B' ≤ B) : Reads w B' vs L :=
  ⟨h.1, fun i hi => by obtain ⟨A, c, e, hr, hf⟩ := h.2 i hi; exact ⟨A, c, e, hr, hf.1.mono hb, hf.2⟩⟩
theorem Reads.nil (w : World) (B : Nat) : Reads w B [] [] := ⟨rfl, fun i h => by simp at h⟩
theorem Reads.one {w : World} {B : Nat} {A : Option Addr} {c : Nat} {l : List Int} (h : Row w A (ints l)) (hf : From B A) (hc : Room l.length c) : Reads w B [.slice A l.length c] [l] :=
  ⟨rfl, fun i hi => by
    have : i = 0 := by simpa using hi
    subst this
    exact ⟨A, c, rfl, h, hf, hc⟩⟩
theorem Reads.append {w : World} {B : Nat} {vs us : List Value} {L M : List (List Int)} (h : Reads w B vs L) (k : Reads w B us M) : Reads w B (vs ++ us) (L ++ M) :=
  ⟨by rw [List.length_append, List.length_append, h.1, k.1], fun i hi => by
    by_cases hl : i < L.length
    · obtain ⟨A, c, e, hr⟩ := h.2 i hl
      rw [List.getElem_append_left hl]
      exact ⟨A, c, by rw [List.getElem?_append_left (by rw [h.1]; exact hl)]; exact e, hr⟩
    · have hm : i - L.length < M.length := by rw [List.length_append] at hi; omega
      obtain ⟨A, c, e, hr⟩ := k.2 _ hm
      rw [List.getElem_append_right (by omega)]
      exact ⟨A, c, by rw [List.getElem?_append_right (by rw [h.1]; omega), h.1]; exact e, hr⟩⟩
theorem Reads.one_cell {w : World} {B : Nat} {vs : List Value} {L : List (List Int)} (h : Reads w B vs L) : ∀ u ∈ vs, u.oneCell' = true := fun u hu => by
  obtain ⟨i, hi, rfl⟩ := List.getElem_of_mem hu
  obtain ⟨A, c, e, _⟩ := h.2 i (by rw [← h.1]; exact hi)
  rw [List.getElem?_eq_getElem hi] at e
  injection e with e
  rw [e]; rfl
/-- None of the rows lies in block g. -/
def Off (g : Nat) (vs : List Value) : Prop := ∀ (i : Nat) (a : Addr) (n c : Nat), vs[i]? = some (Value.slice (some a) n c) → a.block ≠ g
theorem Off.append {g : Nat} {vs us : List Value} (h : Off g vs) (k : Off g us) : Off g (vs ++ us) := fun i a n c e => by
  by_cases hl : i < vs.length
  · rw [List.getElem?_append_left hl] at e; exact h i a n c e
  · rw [List.getElem?_append_right (by omega)] at e; exact k _ a n c e
theorem Reads.off_low {w : World} {B g : Nat} {vs : List Value} {L : List (List Int)} (h : Reads w B vs L) (hg : g < B) : Off g vs := fun i a n c e => by
  have hi : i < vs.length := (List.getElem?_eq_some_iff.1 e).1
  obtain ⟨A, c', e', _, hf⟩ := h.2 i (by rw [← h.1]; exact hi)
  rw [e] at e'
  injection e' with e'
  injection e' with e'
  have := hf.1 a e'.symm
  omega
theorem Reads.off_new {w : World} {B g : Nat} {vs : List Value} {L : List (List Int)} (h : Reads w B vs L) (hne : ∀ x ∈ L, 1 ≤ x.length) (hg : w.heap.size ≤ g) : Off g vs := fun i a n c e => by
  have hi : i < vs.length := (List.getElem?_eq_some_iff.1 e).1
  have hiL : i < L.length := by rw [← h.1]; exact hi
  obtain ⟨A, c', e', hr, _⟩ := h.2 i hiL
  rw [e] at e'
  injection e' with e'
  injection e' with e'
  subst e'
  obtain ⟨ad, ea, hc⟩ := hr 0 (by have := hne _ (List.getElem_mem hiL); simp; omega)
  injection ea with ea
  subst ea
  have := World.block_lt_of_cell? _ _ hc
  rw [addr_block] at this
  omega
theorem Reads.grown {w w' : World} {B : Nat} {vs : List Value} {L : List (List Int)} {r : Option Nat} (h : Reads w B vs L) (hg : w.grownBy w' r) (hr : ∀ g, r = some g → Off g vs) : Reads w' B vs L :=
  ⟨h.1, fun i hi => by
    obtain ⟨A, c, e, hrow, hf⟩ := h.2 i hi
    exact ⟨A, c, e, hrow.grown hg (fun ad ea hx => by subst ea; exact hr _ hx i ad _ c e rfl), hf⟩⟩
theorem elem_rows : Elem Try.prog 27 1 24 := Elem.of (z := .slice none 0 0) (by kernel_rfl) rfl (by omega)
/-- What a call of queensFrom comes to. -/
def Queens (B : Nat) (L : List (List Int)) (w : World) (e : Ending) (w' : World) : Prop := ∃ v vs, e = .returned v ∧ w'.ownsRow w.heap.size 27 1 v (List.length vs) vs ∧ Reads w' B vs L ∧ Below w.heap.size w w'
/-- What is owned stands where its own block does. -/
theorem own_same {w w' : World} {base e size n : Nat} {v : Value} {xs : List Value} (h : w.ownsRow base e size v n xs) (hs : ∀ g, v.ownBlock = some g → w'.heap[g]? = w.heap[g]?) : w'.ownsRow base e size v n xs := by
  obtain ⟨hl, ⟨rfl, h0⟩ | ⟨g, cap, cur, rfl, hb, hg, rest⟩⟩ := h
  · exact ⟨hl, .inl ⟨rfl, h0⟩⟩
  · exact ⟨hl, .inr ⟨g, cap, cur, rfl, hb, (hs g rfl).trans hg, rest⟩⟩
/-- Rows of one type are not those of another. -/
theorem own_type {w : World} {base e size n : Nat} {v : Value} {xs : List Value} (h : w.ownsRow base e size v n xs) {g : Nat} (hg : v.ownBlock = some g) : ∃ cur, w.heap[g]? = some (.cells cur e (0, 0)) := by
  obtain ⟨hl, ⟨rfl, h0⟩ | ⟨g', cap, cur, rfl, hb, hg', rest⟩⟩ := h
  · cases hg
  · injection hg with hg; subst hg; exact ⟨cur, hg'⟩
/-- vs are slices, each of which owns a row of L. -/
def Rows1 (D : Nat) (W : World) (vs : List Value) (L : List (List Int)) : Prop := vs.length = L.length ∧ ∀ i (h : i < L.length), ∃ A c, vs[i]? = some (.slice A (L[i]).length c) ∧ W.ownsRow D 3 1 (.slice A (L[i]).length c) (L[i]).length (ints L[i])
def Apart (vs : List Value) : Prop := ∀ (i j : Nat) (u v : Value) (g : Nat), vs[i]? = some u → vs[j]? = some v → u.ownBlock = some g → v.ownBlock = some g → i = j
theorem Rows1.mem {D : Nat} {W : World} {vs : List Value} {L : List (List Int)} (h : Rows1 D W vs L) : ∀ u ∈ vs, ∃ x A c, u = .slice A x.length c ∧ W.ownsRow D 3 1 u x.length (ints x) := fun u hu => by
  obtain ⟨i, hi, rfl⟩ := List.getElem_of_mem hu
  obtain ⟨A, c, e, ho⟩ := h.2 i (by rw [← h.1]; exact hi)
  rw [List.getElem?_eq_getElem hi] at e
  injection e with e
  exact ⟨_, A, c, e, by rw [e]; exact ho⟩
theorem Rows1.same {D : Nat} {W W' : World} {vs : List Value} {L : List (List Int)} (h : Rows1 D W vs L) (hs : ∀ u ∈ vs, ∀ g, u.ownBlock = some g → W'.heap[g]? = W.heap[g]?) : Rows1 D W' vs L :=
  ⟨h.1, fun i hi => by
    obtain ⟨A, c, e, ho⟩ := h.2 i hi
    exact ⟨A, c, e, own_same ho (hs _ (List.mem_of_getElem? e))⟩⟩
theorem Rows1.nil (D : Nat) (W : World) : Rows1 D W [] [] := ⟨rfl, fun i h => by simp at h⟩
theorem Rows1.snoc {D : Nat} {W : World} {vs : List Value} {L : List (List Int)} {x : List Int} {A : Option Addr} {c : Nat} (h : Rows1 D W vs L) (hx : W.ownsRow D 3 1 (.slice A x.length c) x.length (ints x)) : Rows1 D W (vs ++ [.slice A x.length c]) (L ++ [x]) :=
  ⟨by simp [h.1], fun i hi => by
    by_cases hl : i < L.length
    · obtain ⟨A', c', e, ho⟩ := h.2 i hl
      refine ⟨A', c', ?_, ?_⟩
      · rw [List.getElem_append_left hl, List.getElem?_append_left (by rw [h.1]; exact hl)]; exact e
      · rw [List.getElem_append_left hl]; exact ho
    · have : i = L.length := by simp at hi; omega
      subst this
      refine ⟨A, c, ?_, ?_⟩
      · rw [List.getElem?_append_right (by rw [h.1]; exact Nat.le_refl _)]; simp [h.1]
      · simpa using hx⟩
theorem Apart.snoc {vs : List Value} {u : Value} (h : Apart vs) (hu : ∀ v ∈ vs, ∀ g, v.ownBlock = some g → u.ownBlock ≠ some g) : Apart (vs ++ [u]) := fun i j a b g ha hb ga gb => by
  have key : ∀ k a, (vs ++ [u])[k]? = some a → (k < vs.length ∧ vs[k]? = some a) ∨ (k = vs.length ∧ a = u) := fun k a e => by
    by_cases hk : k < vs.length
    · rw [List.getElem?_append_left hk] at e; exact .inl ⟨hk, e⟩
    · rw [List.getElem?_append_right (by omega)] at e
      have : k - vs.length = 0 := by
        have := (List.getElem?_eq_some_iff.1 e).1
        simp at this; omega
      rw [this] at e
      simp at e
      exact .inr ⟨by omega, e.symm⟩
  rcases key i a ha with ⟨_, h1⟩ | ⟨h1, rfl⟩ <;> rcases key j b hb with ⟨_, h2⟩ | ⟨h2, rfl⟩
  · exact h i j a b g h1 h2 ga gb
  · exact absurd gb (hu a (List.mem_of_getElem? h1) g ga)
  · exact absurd ga (hu b (List.mem_of_getElem? h2) g gb)
  · omega
/-- It hands back a row of its own of rows of their own, all apart. -/
def Rowset (D : Nat) (L : List (List Int)) (w : World) (e : Ending) (w' : World) : Prop := ∃ v vs, e = .returned v ∧ w'.ownsRow w.heap.size 27 1 v vs.length vs ∧ Rows1 D w' vs L ∧ Apart vs ∧ Below w.heap.size w w'
theorem Rowset.from {D : Nat} {L : List (List Int)} {w w1 : World} {e : Ending} {w' : World} (h : Rowset D L w1 e w') (hb : Below w.heap.size w w1) : Rowset D L w e w' := by
  obtain ⟨v, vs, he, own, rs, ap, b⟩ := h
  exact ⟨v, vs, he, own_mono own hb.size, rs, ap, below_then hb hb.size b⟩
theorem Rows1.reads {D : Nat} {W : World} {vs : List Value} {L : List (List Int)} (h : Rows1 D W vs L) : Reads W D vs L :=
  ⟨h.1, fun i hi => by
    obtain ⟨A, c, e, ho⟩ := h.2 i hi
    obtain ⟨A', c', he, n3, m3, r3, f3⟩ := own_row ho
    injection he with h1 h2 h3
    subst h1; subst h3
    exact ⟨A, c, e, r3, fun ad ea => by obtain ⟨g, rfl, hg, _⟩ := f3 ad ea; exact hg, n3, m3⟩⟩
theorem Rows1.below {D : Nat} {W W' : World} {vs : List Value} {L : List (List Int)} (h : Rows1 D W vs L) (hb : Below W.heap.size W W') : Rows1 D W' vs L :=
  h.same fun u hu g eg => by
    obtain ⟨x, A, c, _, ho⟩ := h.mem u hu
    exact hb.block g (ho.lt g eg).2
theorem Reads.at_ {w : World} {B : Nat} {vs : List Value} {L : List (List Int)} (h : Reads w B vs L) {i : Nat} (hi : i < L.length) : ∃ A c, vs[i]?.getD undef = .slice A (L[i]?.getD []).length c ∧ Row w A (ints (L[i]?.getD [])) ∧ From B A ∧ Room (L[i]?.getD []).length c := by
  obtain ⟨A, c, e, r, f, m⟩ := h.2 i hi
  exact ⟨A, c, by rw [e, List.getElem?_eq_getElem hi]; rfl, by rw [List.getElem?_eq_getElem hi]; exact r, f, by rw [List.getElem?_eq_getElem hi]; exact m⟩
set_option maxHeartbeats 400000 in
theorem eqIntS_q (A C : Option Addr) (xs : List Int) (ca cc : Nat) (w : World) (ha : Row w A (ints xs)) (hc : Row w C (ints xs)) (hn : xs.length ≤ 1048576) :
    Calls Try.prog 14 #[.slice A xs.length ca, .slice C xs.length cc] w fun e w' => e = .returned (.bool true) ∧ ∃ m, w' = w.drewN m := by
  go_enter Try.func14, Try.ntmps14
  go_wp2
  go_loopw [5] (fun i wr => ∃ (k n : Nat), k ≤ xs.length ∧ i = .int .i64 k ∧ wr = w.drewN n) (fun i _ => xs.length - (intOf i).toNat)
  case atStart => exact ⟨0, 0, Nat.zero_le _, rfl, rfl⟩
  case round =>
    obtain ⟨k, n, hk, rfl, rfl⟩ := hrel
    by_cases hlt : k < xs.length
    · obtain ⟨ad, rfl, hca⟩ := ha.int hlt
      obtain ⟨ad', rfl, hcc⟩ := hc.int hlt
      obtain ⟨x, hx⟩ : ∃ x, xs[k]?.getD 0 = x := ⟨_, rfl⟩
      rw [hx] at hca hcc
      clear hx
      go_wp2
      go_quiet (fail)
      all_goals go_wp2
      exact ⟨⟨k + 1, n + nq, hlt, by go_num, rfl⟩, by simp [intOf]; omega⟩
    · have hk2 : Hid (k = xs.length) := hide (by omega)
      go_wp2
      go_ret
      exact ⟨rfl, n, rfl⟩
set_option maxHeartbeats 400000 in
theorem eqIntSS_q (A C : Option Addr) (vs us : List Value) (L : List (List Int)) (B B' ca cc : Nat) (w : World) (ha : Row w A vs) (hc : Row w C us) (rv : Reads w B vs L) (ru : Reads w B' us L)
    (hn : L.length ≤ 1048576) (hrows : ∀ x ∈ L, x.length ≤ 1048576) :
    Calls Try.prog 9 #[.slice A L.length ca, .slice C L.length cc] w fun e w' => e = .returned (.bool true) ∧ ∃ m, w' = w.drewN m := by
  have RV := hide (fun (i : Nat) (hi : i < L.length) => rv.at_ (i := i) hi)
  have RU := hide (fun (i : Nat) (hi : i < L.length) => ru.at_ (i := i) hi)
  have HX := hide (fun (i : Nat) (hi : i < L.length) => show (L[i]?.getD []).length ≤ 1048576 by rw [List.getElem?_eq_getElem hi]; exact hrows _ (List.getElem_mem hi))
  have hv : vs.length = L.length := rv.1
  have hu : us.length = L.length := ru.1
  have HV := hide hv
  have HU := hide hu
  clear rv ru hv hu hrows
  go_enter Try.func9, Try.ntmps9
  go_wp2
  go_loopw [5] (fun i wr => ∃ (k n : Nat), k ≤ L.length ∧ i = .int .i64 k ∧ wr = w.drewN n) (fun i _ => L.length - (intOf i).toNat)
  case atStart => exact ⟨0, 0, Nat.zero_le _, rfl, rfl⟩
  case round =>
    obtain ⟨k, n, hk, rfl, hwr⟩ := hrel
    obtain ⟨wo, rfl⟩ : ∃ wo : World, wo = wr := ⟨_, rfl⟩
    have HW := hide hwr
    clear hwr
    by_cases hlt : k < L.length
    · obtain ⟨A1, c1, e1, r1, _, _⟩ := RV.out k hlt
      obtain ⟨A2, c2, e2, r2, _, _⟩ := RU.out k hlt
      have ha' : Row wo A vs := by rw [HW.out]; exact ha.drewN n
      have hc' : Row wo C us := by rw [HW.out]; exact hc.drewN n
      have r1 : Row wo A1 (ints (L[k]?.getD [])) := by rw [HW.out]; exact r1.drewN n
      have r2 : Row wo A2 (ints (L[k]?.getD [])) := by rw [HW.out]; exact r2.drewN n
      obtain ⟨ad, rfl, hca⟩ := ha'.at_ (k := k) (by rw [HV.out]; exact hlt)
      obtain ⟨ad', rfl, hcc⟩ := hc'.at_ (k := k) (by rw [HU.out]; exact hlt)
      rw [e1] at hca
      rw [e2] at hcc
      have hx := HX.out k hlt
      clear e1 e2
      generalize L[k]?.getD [] = x at *
      have HE := hide (fun (m : Nat) => eqIntS_q A1 A2 x c1 c2 (wo.drewN m) (r1.drewN m) (r2.drewN m) hx)
      have k0 : (0 : Int) ≤ (k : Int) := by omega
      have k1 : (k : Int) < (L.length : Int) := by omega
      go_wp2
      go_quiet ((go_at_call 14; exact Calls.quiet_of (HE.out _)))
      all_goals go_wp2
      exact ⟨⟨k + 1, n + nq, hlt, by go_num, by rw [HW.out, World.drewN_drewN]⟩, by simp [intOf]; omega⟩
    · have hk2 : Hid (k = L.length) := hide (by omega)
      go_wp2
      go_ret
      exact ⟨rfl, n, HW.out⟩
def sumLen (L : List (List Int)) : Nat := (L.map List.length).sum
/-- The rows with marks in them, one after the other. -/
def marksOf : Int → List (List Int) → List (List Int)
  | _, [] => []
  | k, x :: L => marks k x.length :: marksOf (k + (x.length : Int)) L
theorem marksOf_len : ∀ (k : Int) (L : List (List Int)), (marksOf k L).length = L.length
  | _, [] => rfl
  | k, x :: L => by rw [marksOf, List.length_cons, List.length_cons, marksOf_len]
theorem sumLen_app (a b : List (List Int)) : sumLen (a ++ b) = sumLen a + sumLen b := by simp only [sumLen, List.map_append, List.sum_append]
theorem sumLen_take (L : List (List Int)) (i : Nat) (h : i < L.length) : sumLen (L.take (i + 1)) = sumLen (L.take i) + L[i].length := by
  rw [List.take_succ_eq_append_getElem h, sumLen_app]; simp [sumLen]
theorem marksOf_at : ∀ (k : Int) (L : List (List Int)) (i : Nat) (h : i < L.length), (marksOf k L)[i]? = some (marks (k + (sumLen (L.take i) : Int)) L[i].length)
  | k, x :: L, 0, _ => by simp [marksOf, sumLen]
  | k, x :: L, i + 1, h => by
    have := marksOf_at (k + (x.length : Int)) L i (by simpa using h)
    simp only [marksOf, List.getElem?_cons_succ, List.getElem_cons_succ, List.take_succ_cons] at this ⊢
    rw [this]
    simp [sumLen, Int.add_assoc]
theorem sumLen_le {L : List (List Int)} {b : Nat} (h : ∀ x ∈ L, x.length ≤ b) : sumLen L ≤ L.length * b := by
  induction L with
  | nil => simp [sumLen]
  | cons x L ih =>
    have h1 := ih (fun y hy => h y (List.mem_cons_of_mem _ hy))
    have h2 := h x (List.mem_cons_self ..)
    simp only [sumLen, List.map_cons, List.sum_cons, List.length_cons] at h1 ⊢
    rw [Nat.add_mul]; omega
theorem sumLen_take_le (L : List (List Int)) (i : Nat) : sumLen (L.take i) ≤ sumLen L := by
  have h := sumLen_app (L.take i) (L.drop i)
  rw [List.take_append_drop] at h
  omega
/-- The first i rows have marks, the others stand. -/
def markTo (k : Int) (L : List (List Int)) (i : Nat) : List (List Int) := (marksOf k L).take i ++ L.drop i
theorem markTo_len (k : Int) (L : List (List Int)) (i : Nat) : (markTo k L i).length = L.length := by
  simp only [markTo, List.length_append, List.length_take, List.length_drop, marksOf_len]; omega
theorem markTo_at (k : Int) (L : List (List Int)) (i j : Nat) (hj : j < L.length) : (markTo k L i)[j]? = if j < i then some (marks (k + (sumLen (L.take j) : Int)) L[j].length) else some L[j] := by
  by_cases h : j < i
  · rw [if_pos h, markTo, List.getElem?_append_left (by rw [List.length_take, marksOf_len]; omega), List.getElem?_take_of_lt h]; exact marksOf_at k L j hj
  · rw [if_neg h, markTo, List.getElem?_append_right (by rw [List.length_take]; omega), List.length_take, marksOf_len, List.getElem?_drop]
    by_cases hi : i ≤ L.length
    · rw [Nat.min_eq_left hi, show i + (j - i) = j by omega, List.getElem?_eq_getElem hj]
    · omega
/-- Nothing but the rows has turned. -/
def Aside (vs : List Value) (w w' : World) : Prop := w'.os = w.os ∧ w'.tape = w.tape ∧ w'.output = w.output ∧ w.heap.size ≤ w'.heap.size ∧ ∀ k, k < w.heap.size → (∀ u ∈ vs, u.ownBlock ≠ some k) → w'.heap[k]? = w.heap[k]?
theorem Aside.refl (vs : List Value) (w : World) : Aside vs w w := ⟨rfl, rfl, rfl, Nat.le_refl _, fun _ _ _ => rfl⟩
theorem Aside.step {vs : List Value} {w w1 w2 : World} {u : Value} (h : Aside vs w w1) (hu : u ∈ vs) (hg : w1.grownBy w2 u.ownBlock) : Aside vs w w2 :=
  ⟨hg.os.trans h.1, hg.tape.trans h.2.1, hg.output.trans h.2.2.1, Nat.le_trans h.2.2.2.1 hg.size, fun k hk hn => (hg.block k (by have := h.2.2.2.1; omega) (fun e => hn u hu e.symm)).trans (h.2.2.2.2 k hk hn)⟩
theorem Rows1.get {D : Nat} {W : World} {vs : List Value} {L : List (List Int)} (h : Rows1 D W vs L) {i : Nat} {x : List Int} (hx : L[i]? = some x) : ∃ A c, vs[i]? = some (.slice A x.length c) ∧ W.ownsRow D 3 1 (.slice A x.length c) x.length (ints x) := by
  obtain ⟨hi, rfl⟩ := List.getElem?_eq_some_iff.1 hx
  exact h.2 i hi
theorem Rows1.of {D : Nat} {W : World} {vs : List Value} {L : List (List Int)} (hl : vs.length = L.length) (h : ∀ (i : Nat) (x : List Int), L[i]? = some x → ∃ (A : Option Addr) (c : Nat), vs[i]? = some (.slice A x.length c) ∧ W.ownsRow D 3 1 (.slice A x.length c) x.length (ints x)) : Rows1 D W vs L :=
  ⟨hl, fun i hi => h i _ (List.getElem?_eq_getElem hi)⟩
/-- Marking one of them leaves the others. -/
theorem mark_one {D : Nat} {w w' : World} {vs : List Value} {k : Int} {L : List (List Int)} {i : Nat} {A : Option Addr} {c : Nat} (h : Rows1 D w vs (markTo k L i)) (hap : Apart vs) (hi : i < L.length) (hv : vs[i]? = some (.slice A L[i].length c))
    (hown : w'.ownsRow D 3 1 (.slice A L[i].length c) L[i].length (ints (marks (k + (sumLen (L.take i) : Int)) L[i].length))) (hg : w.grownBy w' (Value.slice A L[i].length c).ownBlock) : Rows1 D w' vs (markTo k L (i + 1)) := by
  have hl := h.1
  refine Rows1.of (by rw [hl, markTo_len, markTo_len]) fun j x hx => ?_
  have hj : j < L.length := by have := (List.getElem?_eq_some_iff.1 hx).1; rwa [markTo_len] at this
  rw [markTo_at k L (i + 1) j hj] at hx
  by_cases e : j = i
  · subst e
    rw [if_pos (by omega)] at hx
    injection hx with hx
    subst hx
    rw [marks_len]
    exact ⟨A, c, hv, hown⟩
  · have hx' : (markTo k L i)[j]? = some x := by
      rw [markTo_at k L i j hj, ← hx]
      by_cases hji : j < i
      · rw [if_pos hji, if_pos (by omega)]
      · rw [if_neg hji, if_neg (by omega)]
    obtain ⟨A', c', hv', ho'⟩ := h.get hx'
    refine ⟨A', c', hv', own_same ho' fun g eg => hg.block g (ho'.lt g eg).2 fun e' => e (hap j i _ _ g hv' hv eg e'.symm)⟩
set_option maxHeartbeats 2000000 in
theorem markIntSS_c (A : Option Addr) (c : Nat) (vs : List Value) (L : List (List Int)) (D : Nat) (w : World) (hrow : w.ownsRow 0 27 1 (.slice A vs.length c) vs.length vs) (hrs : Rows1 D w vs L) (hap : Apart vs) (hL : L.length ≤ 100000) (hx : ∀ x ∈ L, x.length ≤ 6) :
    Calls Try.prog 10 #[.slice A vs.length c, .int .i64 1] w fun e w' => e = .returned (.int .i64 (1 + (sumLen L : Int))) ∧ Rows1 D w' vs (markTo 1 L L.length) ∧ Aside vs w w' := by
  have hsum : sumLen L ≤ L.length * 6 := sumLen_le hx
  have hvl := hrs.1
  have h0 : Rows1 D w vs (markTo 1 L 0) := by simpa [markTo] using hrs
  have HD := hide (fun (g : Nat) (cur : Array Value) (w5 : World) (h : w5.heap[g]? = some (.cells cur 27 (0, 0))) (u : Value) (hu : u ∈ vs) (M : List (List Int)) (hm : Rows1 D w5 vs M) => show u.ownBlock ≠ some g by
    intro e
    obtain ⟨x, A', c', _, ho⟩ := hm.mem u hu
    obtain ⟨cur', hc'⟩ := own_type ho e
    rw [h] at hc'
    simp at hc')
  rw [hvl] at hrow ⊢
  have HR := hide hrow
  clear hrow
  go_enter Try.func10, Try.ntmps10
  go_wp2
  go_loopw [1, 5] (fun a i wr => ∃ j : Nat, j ≤ L.length ∧ i = .int .i64 (j : Int) ∧ a = .int .i64 (1 + (sumLen (L.take j) : Int)) ∧ Rows1 D wr vs (markTo 1 L j) ∧ Aside vs w wr) (fun _ i _ => L.length - (intOf i).toNat)
  case atStart => exact ⟨0, Nat.zero_le _, rfl, by simp [sumLen], h0, Aside.refl _ _⟩
  case round =>
    obtain ⟨j, hj, rfl, rfl, hrj, has⟩ := hrel
    obtain ⟨wo, rfl⟩ : ∃ wo : World, wo = wr := ⟨_, rfl⟩
    have hst := sumLen_take_le L j
    by_cases hlt : j < L.length
    · have hrow : wo.ownsRow 0 27 1 (.slice A L.length c) L.length vs := own_same HR.out fun g eg => by
        obtain ⟨cur, hc⟩ := own_type HR.out eg
        exact has.2.2.2.2 g (Array.getElem?_eq_some_iff.1 hc).1 fun u hu => HD.out g cur w hc u hu L hrs
      obtain ⟨Aj, cj, hvj, hoj⟩ := hrj.get (i := j) (by rw [markTo_at 1 L j j hlt, if_neg (by omega)])
      obtain ⟨ad, rfl, hca⟩ := (own_reads hrow).at_ (k := j) (by rw [hvl]; exact hlt)
      rw [hvj, Option.getD_some] at hca
      have hxj := hx _ (List.getElem_mem hlt)
      have HM := hide (markIntS_c (.slice Aj L[j].length cj) D (1 + (sumLen (L.take j) : Int)) L[j] wo hoj (by omega) (by omega) (by omega))
      have HO := hide (fun w' h1 h2 => mark_one (w' := w') hrj hap hlt hvj h1 h2)
      have HA := hide (fun w' h => has.step (w2 := w') (List.mem_of_getElem? hvj) h)
      have HS := hide (sumLen_take L j hlt)
      clear hrow hoj hrj has hrs
      generalize hS : sumLen (L.take j) = s at *
      clear hS
      obtain ⟨len, hlen⟩ : ∃ len, L[j].length = len := ⟨_, rfl⟩
      rw [hlen] at HM HO HA HS hca hxj
      have j0 : (0 : Int) ≤ (j : Int) := by omega
      have j1 : (j : Int) < (L.length : Int) := by omega
      clear hvj
      go_wp2_with fail
      refine HM.out.mono ?_
      rintro e w7 ⟨rfl, o7, g7⟩
      have R7 := hide (HO.out w7 o7 g7)
      have A7 := hide (HA.out w7 g7)
      clear o7 g7
      go_wp2_with fail
      exact ⟨⟨j + 1, hlt, rfl, by rw [HS.out]; push_cast; rw [Int.add_assoc], R7.out, A7.out⟩, by simp [intOf]; omega⟩
    · have hjl : Hid (j = L.length) := hide (by omega)
      have R7 := hide hrj
      have A7 := hide has
      clear hrj has
      go_wp2_with fail
      go_ret
      exact ⟨by rw [hjl.out, List.take_of_length_le (Nat.le_refl _)]; rfl, by rw [← hjl.out]; exact R7.out, A7.out⟩
set_option maxHeartbeats 2000000 in
theorem heldIntSS_c (A : Option Addr) (c : Nat) (vs : List Value) (L : List (List Int)) (D : Nat) (w : World) (hrow : Row w A vs) (hrs : Rows1 D w vs (markTo 1 L L.length)) (hL : L.length ≤ 100000) (hx : ∀ x ∈ L, x.length ≤ 6) :
    Calls Try.prog 11 #[.slice A L.length c, .int .i64 1] w (Plain (.int .i64 (1 + (sumLen L : Int))) w) := by
  have hsum : sumLen L ≤ L.length * 6 := sumLen_le hx
  have hvl : vs.length = L.length := by have := hrs.1; rwa [markTo_len] at this
  go_enter Try.func11, Try.ntmps11
  go_wp2
  go_loopw [1, 5] (fun a i wr => ∃ j : Nat, j ≤ L.length ∧ i = .int .i64 (j : Int) ∧ a = .int .i64 (1 + (sumLen (L.take j) : Int)) ∧ Below w.heap.size w wr) (fun _ i _ => L.length - (intOf i).toNat)
  case atStart => exact ⟨0, Nat.zero_le _, rfl, by simp [sumLen], Below.refl _ _⟩
  case round =>
    obtain ⟨j, hj, rfl, rfl, hb⟩ := hrel
    obtain ⟨wo, rfl⟩ : ∃ wo : World, wo = wr := ⟨_, rfl⟩
    have hst := sumLen_take_le L j
    by_cases hlt : j < L.length
    · obtain ⟨Aj, cj, hvj, hoj⟩ := hrs.get (i := j) (by rw [markTo_at 1 L L.length j hlt, if_pos hlt])
      rw [marks_len] at hvj hoj
      obtain ⟨ad, rfl, hca⟩ := (hrow.below hb).at_ (k := j) (by rw [hvl]; exact hlt)
      rw [hvj, Option.getD_some] at hca
      have hxj := hx _ (List.getElem_mem hlt)
      have HM := hide (heldIntS_c Aj (1 + (sumLen (L.take j) : Int)) L[j].length cj wo ((own_reads hoj).below hb) (by omega) (by omega) (by omega))
      have HS := hide (sumLen_take L j hlt)
      clear hoj
      generalize hS : sumLen (L.take j) = s at *
      clear hS
      obtain ⟨len, hlen⟩ : ∃ len, L[j].length = len := ⟨_, rfl⟩
      rw [hlen] at HM HS hca hxj
      have j0 : (0 : Int) ≤ (j : Int) := by omega
      have j1 : (j : Int) < (L.length : Int) := by omega
      clear hvj
      go_wp2_with fail
      refine HM.out.mono ?_
      rintro e w7 ⟨rfl, b7⟩
      have B7 := hide (below_then hb hb.size b7)
      clear b7
      go_wp2_with fail
      exact ⟨⟨j + 1, hlt, rfl, by rw [HS.out]; push_cast; rw [Int.add_assoc], B7.out⟩, by simp [intOf]; omega⟩
    · have hjl : Hid (j = L.length) := hide (by omega)
      go_wp2_with fail
      go_ret
      exact ⟨by rw [hjl.out, List.take_of_length_le (Nat.le_refl _)]; rfl, hb⟩
/-- Rows from D on, and nothing else, have turned. -/
theorem Aside.below {vs : List Value} {w w' : World} {D : Nat} {L : List (List Int)} (h : Aside vs w w') (hrs : Rows1 D w vs L) (hD : D ≤ w.heap.size) : Below D w w' :=
  ⟨h.1, h.2.1, h.2.2.1, h.2.2.2.1, fun k hk => h.2.2.2.2 k (by omega) fun u hu e => by
    obtain ⟨x, A, c, _, ho⟩ := hrs.mem u hu
    have := (ho.lt k e).1
    omega⟩
/-- Which of two lists of one length comes first. -/
def lessR : List Int → List Int → Bool
  | x :: a, y :: b => if x = y then lessR a b else decide (x < y)
  | _, _ => false
theorem lessR_same : ∀ (a : List Int), lessR a a = false
  | [] => rfl
  | x :: a => by rw [lessR, if_pos rfl]; exact lessR_same a
theorem lessR_at : ∀ (a b : List Int) (k : Nat), k < a.length → k < b.length → a.take k = b.take k → a[k]?.getD 0 ≠ b[k]?.getD 0 → lessR a b = decide (a[k]?.getD 0 < b[k]?.getD 0)
  | x :: a, y :: b, 0, _, _, _, h => by
    simp only [List.getElem?_cons_zero, Option.getD_some] at h ⊢
    rw [lessR, if_neg h]
  | x :: a, y :: b, k + 1, h1, h2, ht, h => by
    simp only [List.take_succ_cons, List.cons.injEq] at ht
    simp only [List.getElem?_cons_succ, List.length_cons] at h h1 h2 ⊢
    rw [lessR, if_pos ht.1]
    exact lessR_at a b k (by omega) (by omega) ht.2 h
  | [], _, _, h1, _, _, _ => by simp at h1
  | _ :: _, [], _, _, h2, _, _ => by simp at h2
set_option maxHeartbeats 400000 in
theorem lessRow_c (A C : Option Addr) (xs ys : List Int) (ca cc : Nat) (w : World) (ha : Row w A (ints xs)) (hc : Row w C (ints ys))
    (hn : xs.length ≤ 1048576) (hl : xs.length = ys.length) :
    Calls Try.prog 25 #[.slice A xs.length ca, .slice C ys.length cc] w (Plain (.bool (lessR xs ys)) w) := by
  have hm : ys.length ≤ 1048576 := by omega
  have HL := hide hl
  clear hl
  go_enter Try.func25, Try.ntmps25
  go_wp2
  go_loopw [5] (fun i wr => ∃ (k n : Nat), k ≤ xs.length ∧ i = .int .i64 k ∧ Hid (xs.take k = ys.take k) ∧ wr = w.drewN n) (fun i _ => xs.length - (intOf i).toNat)
  case atStart => exact ⟨0, 0, Nat.zero_le _, rfl, rfl, rfl⟩
  case round =>
    obtain ⟨k, n, hk, rfl, he, rfl⟩ := hrel
    by_cases hlt : k < xs.length
    · have hlt2 : k < ys.length := HL.out ▸ hlt
      obtain ⟨ad, rfl, hca⟩ := ha.int hlt
      obtain ⟨ad', rfl, hcc⟩ := hc.int hlt2
      obtain ⟨x, hx⟩ : ∃ x, xs[k]?.getD 0 = x := ⟨_, rfl⟩
      obtain ⟨y, hy⟩ : ∃ y, ys[k]?.getD 0 = y := ⟨_, rfl⟩
      rw [hx] at hca
      rw [hy] at hcc
      have X := hide hx
      have Y := hide hy
      clear hx hy
      cases hb : (x != y) with
      | true =>
        have HP : Hid (lessR xs ys = decide (x < y)) := by
          show _ = _
          rw [lessR_at xs ys k hlt hlt2 he.out (by rw [X.out, Y.out]; simpa using hb), X.out, Y.out]
        go_wp2
        go_quiet (fail)
        all_goals go_wp2
        go_quiet (fail)
        all_goals go_wp2
        all_goals go_ret
        all_goals exact ⟨ret_bool (by rw [HP.out]), below_drewN (below_drewN (below_drewN (Below.refl _ _) _) _) _⟩
      | false =>
        have HS : Hid (xs.take (k + 1) = ys.take (k + 1)) := eqlist_step hlt HL.out he.out (by
          have e : x = y := by simpa using hb
          have h1 := X.out
          have h2 := Y.out
          rw [List.getElem?_eq_getElem hlt] at h1
          rw [List.getElem?_eq_getElem hlt2] at h2
          simp only [Option.getD_some] at h1 h2
          rw [List.getElem?_eq_getElem hlt, List.getElem?_eq_getElem hlt2, h1, h2, e])
        go_wp2
        go_quiet (fail)
        all_goals go_wp2
        exact ⟨⟨k + 1, n + nq, hlt, by go_num, HS.out, rfl⟩, by simp [intOf]; omega⟩
    · have hk2 : Hid (k = xs.length) := hide (by omega)
      have HP : Hid (lessR xs ys = false) := by
        show _ = _
        have e := he.out
        rw [hk2.out, List.take_of_length_le (Nat.le_refl _), List.take_of_length_le (by rw [HL.out]; exact Nat.le_refl _)] at e
        rw [e]
        exact lessR_same _
      go_wp2
      go_ret
      exact ⟨ret_bool HP.out.symm, below_drewN (Below.refl _ _) _⟩
set_option maxHeartbeats 400000 in
theorem equalInts_q (A C : Option Addr) (xs : List Int) (ca cc : Nat) (w : World) (ha : Row w A (ints xs)) (hc : Row w C (ints xs)) (hn : xs.length ≤ 1048576) :
    Calls Try.prog 18 #[.slice A xs.length ca, .slice C xs.length cc] w fun e w' => e = .returned (.bool true) ∧ ∃ m, w' = w.drewN m := by
  go_enter Try.func18, Try.ntmps18
  go_wp2
  go_loopw [5] (fun i wr => ∃ (k n : Nat), k ≤ xs.length ∧ i = .int .i64 k ∧ wr = w.drewN n) (fun i _ => xs.length - (intOf i).toNat)
  case atStart => exact ⟨0, 0, Nat.zero_le _, rfl, rfl⟩
  case round =>
    obtain ⟨k, n, hk, rfl, rfl⟩ := hrel
    by_cases hlt : k < xs.length
    · obtain ⟨ad, rfl, hca⟩ := ha.int hlt
      obtain ⟨ad', rfl, hcc⟩ := hc.int hlt
      obtain ⟨x, hx⟩ : ∃ x, xs[k]?.getD 0 = x := ⟨_, rfl⟩
      rw [hx] at hca hcc
      clear hx
      go_wp2
      go_quiet (fail)
      all_goals go_wp2
      exact ⟨⟨k + 1, n + nq, hlt, by go_num, rfl⟩, by simp [intOf]; omega⟩
    · have hk2 : Hid (k = xs.length) := hide (by omega)
      go_wp2
      go_ret
      exact ⟨rfl, n, rfl⟩
set_option maxHeartbeats 400000 in
theorem equalRows_q (A C : Option Addr) (vs us : List Value) (L : List (List Int)) (B B' ca cc : Nat) (w : World) (ha : Row w A vs) (hc : Row w C us) (rv : Reads w B vs L) (ru : Reads w B' us L)
    (hn : L.length ≤ 1048576) (hrows : ∀ x ∈ L, x.length ≤ 1048576) :
    Calls Try.prog 21 #[.slice A L.length ca, .slice C L.length cc] w fun e w' => e = .returned (.bool true) ∧ ∃ m, w' = w.drewN m := by
  have RV := hide (fun (i : Nat) (hi : i < L.length) => rv.at_ (i := i) hi)
  have RU := hide (fun (i : Nat) (hi : i < L.length) => ru.at_ (i := i) hi)
  have HX := hide (fun (i : Nat) (hi : i < L.length) => show (L[i]?.getD []).length ≤ 1048576 by rw [List.getElem?_eq_getElem hi]; exact hrows _ (List.getElem_mem hi))
  have hv : vs.length = L.length := rv.1
  have hu : us.length = L.length := ru.1
  have HV := hide hv
  have HU := hide hu
  clear rv ru hv hu hrows
  go_enter Try.func21, Try.ntmps21
  go_wp2
  go_loopw [5] (fun i wr => ∃ (k n : Nat), k ≤ L.length ∧ i = .int .i64 k ∧ wr = w.drewN n) (fun i _ => L.length - (intOf i).toNat)
  case atStart => exact ⟨0, 0, Nat.zero_le _, rfl, rfl⟩
  case round =>
    obtain ⟨k, n, hk, rfl, hwr⟩ := hrel
    obtain ⟨wo, rfl⟩ : ∃ wo : World, wo = wr := ⟨_, rfl⟩
    have HW := hide hwr
    clear hwr
    by_cases hlt : k < L.length
    · obtain ⟨A1, c1, e1, r1, _, _⟩ := RV.out k hlt
      obtain ⟨A2, c2, e2, r2, _, _⟩ := RU.out k hlt
      have ha' : Row wo A vs := by rw [HW.out]; exact ha.drewN n
      have hc' : Row wo C us := by rw [HW.out]; exact hc.drewN n
      have r1 : Row wo A1 (ints (L[k]?.getD [])) := by rw [HW.out]; exact r1.drewN n
      have r2 : Row wo A2 (ints (L[k]?.getD [])) := by rw [HW.out]; exact r2.drewN n
      obtain ⟨ad, rfl, hca⟩ := ha'.at_ (k := k) (by rw [HV.out]; exact hlt)
      obtain ⟨ad', rfl, hcc⟩ := hc'.at_ (k := k) (by rw [HU.out]; exact hlt)
      rw [e1] at hca
      rw [e2] at hcc
      have hx := HX.out k hlt
      clear e1 e2
      generalize L[k]?.getD [] = x at *
      have HE := hide (fun (m : Nat) => equalInts_q A1 A2 x c1 c2 (wo.drewN m) (r1.drewN m) (r2.drewN m) hx)
      have k0 : (0 : Int) ≤ (k : Int) := by omega
      have k1 : (k : Int) < (L.length : Int) := by omega
      go_wp2
      go_quiet ((go_at_call 18; exact Calls.quiet_of (HE.out _)))
      all_goals go_wp2
      exact ⟨⟨k + 1, n + nq, hlt, by go_num, by rw [HW.out, World.drewN_drewN]⟩, by simp [intOf]; omega⟩
    · have hk2 : Hid (k = L.length) := hide (by omega)
      go_wp2
      go_ret
      exact ⟨rfl, n, HW.out⟩
end Go.Proofs.Ytgbbmnnpphkkbaa
