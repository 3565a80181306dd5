/-
  Pegs, purely: the search for what comes, its order, and the least number of pegs.
-/
import Derived.Test.YtgbbmnnpphkkbaaPegP
namespace Go.Proofs.Ytgbbmnnpphkkbaa
open Go.RowKit
set_option linter.unusedVariables false

/-- What is new is put behind the others. -/
def putN (out : List Nat) (y : Nat) : List Nat := if out.contains y then out else out ++ [y]
def putsTo (x : Nat) (js : List Jump) (out : List Nat) : Nat → List Nat
  | 0 => out
  | q + 1 => putN (putsTo x js out q) (behindP x (js[q]?.getD (0, 0, 0)))
def bfsL (w n s : Nat) : Nat → List Nat
  | 0 => [s]
  | k + 1 => match (bfsL w n s k)[k]? with
    | none => bfsL w n s k
    | some x => putsTo x (jumpL w n x) (bfsL w n s k) (jumpL w n x).length
theorem putN_sub {out : List Nat} {y z : Nat} (h : z ∈ out) : z ∈ putN out y := by
  unfold putN
  split
  · exact h
  · exact List.mem_append_left _ h
theorem putN_in (out : List Nat) (y : Nat) : y ∈ putN out y := by
  unfold putN
  split
  · rename_i h; exact List.contains_iff_mem.1 h
  · exact List.mem_append_right _ (List.mem_cons_self ..)
theorem nodup_le : ∀ (m : Nat) (l : List Nat), l.Nodup → (∀ x ∈ l, x < m) → l.length ≤ m
  | 0, l, _, h => by
    cases l with
    | nil => exact Nat.le_refl _
    | cons x l => exact absurd (h x (List.mem_cons_self ..)) (by omega)
  | m + 1, l, hn, h => by
    by_cases hm : m ∈ l
    · have h1 := nodup_le m (l.erase m) (hn.erase m) fun x hx => by
        have h2 := h x (List.mem_of_mem_erase hx)
        have h3 : x ≠ m := fun e => by subst e; exact (hn.not_mem_erase) hx
        omega
      rw [List.length_erase_of_mem hm] at h1
      omega
    · have h1 := nodup_le m l hn fun x hx => by
        have h2 := h x hx
        have h3 : x ≠ m := fun e => hm (e ▸ hx)
        omega
      omega

/-- In the midst of a set's jumps. -/
structure Mid (w n s x : Nat) (base o : List Nat) : Prop where
  pre : ∃ e, o = base ++ e ∧ ∀ y ∈ e, cntB y n + 1 = cntB x n
  nodup : o.Nodup
  lt : ∀ y ∈ o, y < 2 ^ n
  come : ∀ y ∈ o, Comes w n s y
theorem Mid.put {w n s x : Nat} {base o : List Nat} (h : Mid w n s x base o) (hw : 1 ≤ w) (hx : x < 2 ^ n) (hc : Comes w n s x) {j : Jump} (hj : j ∈ jumpL w n x) : Mid w n s x base (putN o (behindP x j)) := by
  have hJ := jump_is hw hj
  unfold putN
  split
  · exact h
  · rename_i hno
    have hno : behindP x j ∉ o := fun hm => hno (List.contains_iff_mem.2 hm)
    obtain ⟨e, rfl, he⟩ := h.pre
    refine ⟨⟨e ++ [behindP x j], by simp, fun y hy => ?_⟩, ?_, fun y hy => ?_, fun y hy => ?_⟩
    · rcases List.mem_append.1 hy with hy | hy
      · exact he y hy
      · rw [List.mem_singleton.1 hy]; exact cnt_behind hJ
    · rw [List.nodup_append]
      exact ⟨h.nodup, by simp, fun a ha b hb hab => by rw [List.mem_singleton.1 hb] at hab; exact hno (hab ▸ ha)⟩
    · rcases List.mem_append.1 hy with hy | hy
      · exact h.lt y hy
      · rw [List.mem_singleton.1 hy]; exact behind_lt hJ hx
    · rcases List.mem_append.1 hy with hy | hy
      · exact h.come y hy
      · rw [List.mem_singleton.1 hy]; exact .jump hc hj
theorem mid_to {w n s x : Nat} {base : List Nat} (h : Mid w n s x base base) (hw : 1 ≤ w) (hx : x < 2 ^ n) (hc : Comes w n s x) : ∀ q, q ≤ (jumpL w n x).length → Mid w n s x base (putsTo x (jumpL w n x) base q)
  | 0, _ => h
  | q + 1, hq => by
    have := mid_to h hw hx hc q (by omega)
    rw [putsTo]
    exact this.put hw hx hc (by rw [List.getElem?_eq_getElem (show q < (jumpL w n x).length by omega)]; exact List.getElem_mem _)
theorem puts_in {x : Nat} {js : List Jump} {out : List Nat} : ∀ q i, i < q → behindP x (js[i]?.getD (0, 0, 0)) ∈ putsTo x js out q
  | q + 1, i, hi => by
    rw [putsTo]
    by_cases e : i = q
    · subst e; exact putN_in _ _
    · exact putN_sub (puts_in q i (by omega))

/-- Where the search stands. -/
structure Bfs (w n s k : Nat) (o : List Nat) : Prop where
  self : s ∈ o
  nodup : o.Nodup
  lt : ∀ y ∈ o, y < 2 ^ n
  come : ∀ y ∈ o, Comes w n s y
  closed : ∀ i x, i < k → o[i]? = some x → ∀ j ∈ jumpL w n x, behindP x j ∈ o
  down : ∀ (i i' x x' : Nat), i ≤ i' → o[i]? = some x → o[i']? = some x' → cntB x' n ≤ cntB x n
  near : ∀ x, o[k]? = some x → ∀ y ∈ o, cntB x n ≤ cntB y n + 1
theorem Bfs.mid {w n s k x : Nat} {o : List Nat} (h : Bfs w n s k o) : Mid w n s x o o := ⟨⟨[], by simp, fun y hy => absurd hy (by simp)⟩, h.nodup, h.lt, h.come⟩
theorem Bfs.next {w n s k x : Nat} {o o' : List Nat} (h : Bfs w n s k o) (hx : o[k]? = some x) (hm : Mid w n s x o o') (hall : ∀ j ∈ jumpL w n x, behindP x j ∈ o') : Bfs w n s (k + 1) o' := by
  obtain ⟨e, rfl, he⟩ := hm.pre
  have hk : k < o.length := (List.getElem?_eq_some_iff.1 hx).1
  have hdown : ∀ (i i' y y' : Nat), i ≤ i' → (o ++ e)[i]? = some y → (o ++ e)[i']? = some y' → cntB y' n ≤ cntB y n := fun i i' y y' hi hy hy' => by
    by_cases h1 : i' < o.length
    · rw [List.getElem?_append_left h1] at hy'
      rw [List.getElem?_append_left (by omega)] at hy
      exact h.down i i' y y' hi hy hy'
    · rw [List.getElem?_append_right (by omega)] at hy'
      have h2 := he y' (List.mem_of_getElem? hy')
      by_cases h3 : i < o.length
      · rw [List.getElem?_append_left h3] at hy
        have := h.near x hx y (List.mem_of_getElem? hy)
        omega
      · rw [List.getElem?_append_right (by omega)] at hy
        have := he y (List.mem_of_getElem? hy)
        omega
  refine ⟨List.mem_append_left _ h.self, hm.nodup, hm.lt, hm.come, fun i y hi hy j hj => ?_, hdown, fun y hy z hz => ?_⟩
  · rw [List.getElem?_append_left (by omega)] at hy
    by_cases e' : i = k
    · subst e'
      rw [hx] at hy
      injection hy with hy
      subst hy
      exact hall j hj
    · exact List.mem_append_left _ (h.closed i y (by omega) hy j hj)
  · have h1 := hdown k (k + 1) x y (by omega) (by rw [List.getElem?_append_left hk]; exact hx) hy
    rcases List.mem_append.1 hz with hz | hz
    · have := h.near x hx z hz
      omega
    · have := he z hz
      omega
theorem Bfs.past {w n s k x : Nat} {o : List Nat} (h : Bfs w n s k o) (hk : o.length ≤ k) : Bfs w n s (k + 1) o :=
  ⟨h.self, h.nodup, h.lt, h.come, fun i y hi hy => by
      have := (List.getElem?_eq_some_iff.1 hy).1
      exact h.closed i y (by omega) hy,
    h.down, fun y hy => by have := (List.getElem?_eq_some_iff.1 hy).1; omega⟩
theorem bfs_is {w n s : Nat} (hw : 1 ≤ w) (hs : s < 2 ^ n) : ∀ k, Bfs w n s k (bfsL w n s k)
  | 0 => by
    refine ⟨List.mem_singleton.2 rfl, by simp [bfsL], fun y hy => ?_, fun y hy => ?_, fun i x hi => absurd hi (by omega), fun i i' x x' hi hx hx' => ?_, fun x hx y hy => ?_⟩
    · rw [List.mem_singleton.1 hy]; exact hs
    · rw [List.mem_singleton.1 hy]; exact .self
    · have h1 := List.mem_singleton.1 (List.mem_of_getElem? hx)
      have h2 := List.mem_singleton.1 (List.mem_of_getElem? hx')
      rw [h1, h2]; exact Nat.le_refl _
    · have h1 := List.mem_singleton.1 (List.mem_of_getElem? hx)
      rw [h1, List.mem_singleton.1 hy]; omega
  | k + 1 => by
    have h := bfs_is hw hs k
    rw [bfsL]
    cases hx : (bfsL w n s k)[k]? with
    | none => exact h.past (x := 0) (List.getElem?_eq_none_iff.1 hx)
    | some x =>
      have hm := List.mem_of_getElem? hx
      refine h.next hx (mid_to h.mid hw (h.lt x hm) (h.come x hm) _ (Nat.le_refl _)) fun j hj => ?_
      obtain ⟨i, hi, rfl⟩ := List.getElem_of_mem hj
      have := puts_in (x := x) (js := jumpL w n x) (out := bfsL w n s k) _ i hi
      rwa [List.getElem?_eq_getElem hi] at this
theorem bfs_len {w n s : Nat} (hw : 1 ≤ w) (hs : s < 2 ^ n) (k : Nat) : (bfsL w n s k).length ≤ 2 ^ n := nodup_le _ _ (bfs_is hw hs k).nodup (bfs_is hw hs k).lt
theorem bfs_stop {w n s k : Nat} (h : (bfsL w n s k).length ≤ k) : ∀ m, bfsL w n s (k + m) = bfsL w n s k
  | 0 => rfl
  | m + 1 => by
    have ih := bfs_stop h m
    rw [← Nat.add_assoc, bfsL, ih, List.getElem?_eq_none (by omega)]
/-- All that comes, in the order in which it is found. -/
def comeL (w n s : Nat) : List Nat := bfsL w n s (2 ^ n)
theorem come_at {w n s k : Nat} (hw : 1 ≤ w) (hs : s < 2 ^ n) (h : (bfsL w n s k).length = k) : comeL w n s = bfsL w n s k := by
  have := bfs_len hw hs k
  have e := bfs_stop (w := w) (n := n) (s := s) (k := k) (by omega) (2 ^ n - k)
  unfold comeL
  rwa [show k + (2 ^ n - k) = 2 ^ n by omega] at e
theorem come_mem {w n s y : Nat} (hw : 1 ≤ w) (hs : s < 2 ^ n) : y ∈ comeL w n s ↔ Comes w n s y := by
  have h := bfs_is hw hs (2 ^ n)
  have hl := bfs_len hw hs (2 ^ n)
  refine ⟨h.come y, fun hc => ?_⟩
  induction hc with
  | self => exact h.self
  | jump _ hj ih =>
    obtain ⟨i, hi, hx⟩ := List.getElem_of_mem ih
    exact h.closed i _ (by unfold comeL at hi; omega) (by rw [← hx]; exact List.getElem?_eq_getElem hi) _ hj
theorem come_nodup {w n s : Nat} (hw : 1 ≤ w) (hs : s < 2 ^ n) : (comeL w n s).Nodup := (bfs_is hw hs _).nodup
theorem come_lt {w n s y : Nat} (hw : 1 ≤ w) (hs : s < 2 ^ n) (h : y ∈ comeL w n s) : y < 2 ^ n := (bfs_is hw hs _).lt y h
theorem come_len {w n s : Nat} (hw : 1 ≤ w) (hs : s < 2 ^ n) : (comeL w n s).length ≤ 2 ^ n := bfs_len hw hs _
/-- What is behind a jump lies among those that are still to come, if it lies there at all. -/
theorem left_mem {w n s k x : Nat} {base o : List Nat} (h : Bfs w n s k base) (hx : base[k]? = some x) (hm : Mid w n s x base o) {j : Jump} (hw : 1 ≤ w) (hj : j ∈ jumpL w n x) : behindP x j ∈ o ↔ behindP x j ∈ o.drop (k + 1) := by
  refine ⟨fun hy => ?_, fun hy => List.mem_of_mem_drop hy⟩
  obtain ⟨i, hi, he⟩ := List.getElem_of_mem hy
  have hk : k < base.length := (List.getElem?_eq_some_iff.1 hx).1
  have hc := cnt_behind (jump_is hw hj)
  have : k < i := by
    rcases Nat.lt_or_ge k i with h1 | h1
    · exact h1
    · exfalso
      obtain ⟨e, rfl, _⟩ := hm.pre
      have h2 : base[i]? = some (behindP x j) := by
        rw [← he, ← List.getElem?_eq_getElem hi, List.getElem?_append_left (by omega)]
      have := h.down i k _ _ h1 h2 hx
      omega
  have h3 : (o.drop (k + 1))[i - (k + 1)]? = some (behindP x j) := by
    rw [List.getElem?_drop, show k + 1 + (i - (k + 1)) = i by omega, List.getElem?_eq_getElem hi, he]
  exact List.mem_of_getElem? h3

/-- The least number of pegs of the first k sets, or b. -/
def lstTo (n : Nat) (L : List Nat) (b : Nat) : Nat → Nat
  | 0 => b
  | k + 1 => min (lstTo n L b k) (cntB (L[k]?.getD 0) n)
theorem lst_le {n : Nat} {L : List Nat} {b : Nat} : ∀ k, lstTo n L b k ≤ b ∧ ∀ i, i < k → lstTo n L b k ≤ cntB (L[i]?.getD 0) n
  | 0 => ⟨Nat.le_refl _, fun i hi => absurd hi (by omega)⟩
  | k + 1 => by
    obtain ⟨h1, h2⟩ := lst_le (n := n) (L := L) (b := b) k
    rw [lstTo]
    refine ⟨by omega, fun i hi => ?_⟩
    by_cases e : i = k
    · subst e; omega
    · have := h2 i (by omega); omega
theorem lst_is {n : Nat} {L : List Nat} {b : Nat} : ∀ k, k ≤ L.length → lstTo n L b k = b ∨ ∃ y ∈ L, cntB y n = lstTo n L b k
  | 0, _ => .inl rfl
  | k + 1, hk => by
    rw [lstTo]
    rcases Nat.le_total (lstTo n L b k) (cntB (L[k]?.getD 0) n) with h | h
    · rw [Nat.min_eq_left h]; exact lst_is k (by omega)
    · rw [Nat.min_eq_right h, List.getElem?_eq_getElem (show k < L.length by omega)]
      exact .inr ⟨_, List.getElem_mem _, rfl⟩
/-- The least number of pegs that are left. -/
def fewL (w n s : Nat) : Nat := lstTo n (comeL w n s) (cntB s n) (comeL w n s).length
theorem few_le {w n s y : Nat} (hw : 1 ≤ w) (hs : s < 2 ^ n) (h : Comes w n s y) : fewL w n s ≤ cntB y n := by
  obtain ⟨i, hi, rfl⟩ := List.getElem_of_mem ((come_mem hw hs).2 h)
  have := (lst_le (n := n) (L := comeL w n s) (b := cntB s n) (comeL w n s).length).2 i hi
  rwa [List.getElem?_eq_getElem hi] at this
theorem few_is {w n s : Nat} (hw : 1 ≤ w) (hs : s < 2 ^ n) : ∃ y, Comes w n s y ∧ cntB y n = fewL w n s := by
  rcases lst_is (n := n) (L := comeL w n s) (b := cntB s n) (comeL w n s).length (Nat.le_refl _) with h | ⟨y, hy, h⟩
  · exact ⟨s, .self, h.symm⟩
  · exact ⟨y, (come_mem hw hs).1 hy, h⟩
/-- Whatever the order of the sets, the least is one. -/
theorem few_any {w n s b : Nat} {L : List Nat} (hw : 1 ≤ w) (hs : s < 2 ^ n) (hL : ∀ y, y ∈ L ↔ Comes w n s y) (hb : ∃ y ∈ L, cntB y n = b) : lstTo n L b L.length = fewL w n s := by
  obtain ⟨y, hy, e⟩ := few_is hw hs
  obtain ⟨h1, h2⟩ := lst_le (n := n) (L := L) (b := b) L.length
  obtain ⟨i, hi, hyi⟩ := List.getElem_of_mem ((hL y).2 hy)
  have h3 := h2 i hi
  rw [List.getElem?_eq_getElem hi, Option.getD_some, hyi] at h3
  have h4 : fewL w n s ≤ lstTo n L b L.length := by
    rcases lst_is (n := n) (L := L) (b := b) L.length (Nat.le_refl _) with h | ⟨z, hz, h⟩
    · obtain ⟨z, hz, hb⟩ := hb
      have := few_le hw hs ((hL z).1 hz)
      omega
    · have := few_le hw hs ((hL z).1 hz)
      omega
  omega
theorem few_none {w n s : Nat} (hw : 1 ≤ w) (hs : s < 2 ^ n) : fewL w n s = cntB s n ↔ jumpL w n s = [] := by
  refine ⟨fun h => ?_, fun h => ?_⟩
  · cases hj : jumpL w n s with
    | nil => rfl
    | cons j js =>
      exfalso
      have hm : j ∈ jumpL w n s := by rw [hj]; exact List.mem_cons_self ..
      have h1 := few_le hw hs (.jump .self hm)
      have h2 := cnt_behind (jump_is hw hm)
      omega
  · obtain ⟨y, hy, e⟩ := few_is hw hs
    rcases comes_first hy with rfl | ⟨j, hj, _⟩
    · exact e.symm
    · rw [h] at hj; exact absurd hj (by simp)
theorem few_behind {w n s : Nat} (hw : 1 ≤ w) (hs : s < 2 ^ n) {j : Jump} (hj : j ∈ jumpL w n s) : fewL w n s ≤ fewL w n (behindP s j) := by
  obtain ⟨y, hy, e⟩ := few_is hw (behind_lt (jump_is hw hj) hs)
  rw [← e]
  exact few_le hw hs (comes_trans (.jump .self hj) hy)
/-- The least number of pegs behind the first k jumps, or all. -/
def fallTo (w n s : Nat) : Nat → Nat
  | 0 => cntB s n
  | k + 1 => min (fallTo w n s k) (fewL w n (behindP s ((jumpL w n s)[k]?.getD (0, 0, 0))))
theorem fall_le {w n s : Nat} : ∀ k, fallTo w n s k ≤ cntB s n ∧ ∀ i, i < k → fallTo w n s k ≤ fewL w n (behindP s ((jumpL w n s)[i]?.getD (0, 0, 0)))
  | 0 => ⟨Nat.le_refl _, fun i hi => absurd hi (by omega)⟩
  | k + 1 => by
    obtain ⟨h1, h2⟩ := fall_le (w := w) (n := n) (s := s) k
    rw [fallTo]
    refine ⟨by omega, fun i hi => ?_⟩
    by_cases e : i = k
    · subst e; omega
    · have := h2 i (by omega); omega
theorem fall_ge {w n s : Nat} (hw : 1 ≤ w) (hs : s < 2 ^ n) : ∀ k, k ≤ (jumpL w n s).length → fewL w n s ≤ fallTo w n s k
  | 0, _ => few_le hw hs .self
  | k + 1, hk => by
    have h1 := fall_ge hw hs k (by omega)
    have h2 : fewL w n s ≤ fewL w n (behindP s ((jumpL w n s)[k]?.getD (0, 0, 0))) := by
      rw [List.getElem?_eq_getElem (show k < (jumpL w n s).length by omega)]
      exact few_behind hw hs (List.getElem_mem _)
    rw [fallTo]
    omega
theorem fall_all {w n s : Nat} (hw : 1 ≤ w) (hs : s < 2 ^ n) : fallTo w n s (jumpL w n s).length = fewL w n s := by
  have h0 := fall_ge hw hs _ (Nat.le_refl _)
  obtain ⟨h1, h2⟩ := fall_le (w := w) (n := n) (s := s) (jumpL w n s).length
  obtain ⟨y, hy, e⟩ := few_is hw hs
  rcases comes_first hy with rfl | ⟨j, hj, hc⟩
  · omega
  · obtain ⟨i, hi, rfl⟩ := List.getElem_of_mem hj
    have h3 := h2 i hi
    rw [List.getElem?_eq_getElem hi, Option.getD_some] at h3
    have h4 := few_le hw (behind_lt (jump_is hw hj) hs) hc
    omega
/-- Counted cell by cell, from either end. -/
theorem cnt_half (x : Nat) : ∀ k, cntB x (k + 1) = x % 2 + cntB (x / 2) k
  | 0 => by
    simp only [cntB, Nat.zero_add, Nat.add_zero]
    rw [Nat.testBit_zero]
    rcases Nat.mod_two_eq_zero_or_one x with h | h <;> simp [h]
  | k + 1 => by
    rw [cntB, cnt_half x k, cntB, Nat.testBit_succ]
    omega
theorem cnt_more {x n : Nat} (hx : x < 2 ^ n) : ∀ m, cntB x (n + m) = cntB x n
  | 0 => rfl
  | m + 1 => by
    rw [← Nat.add_assoc, cntB, cnt_more hx m, Nat.testBit_lt_two_pow (Nat.lt_of_lt_of_le hx (Nat.pow_le_pow_right (by omega) (by omega)))]
    rfl
end Go.Proofs.Ytgbbmnnpphkkbaa
