
/-
  Walks by chance: the two matrices of a mean time, purely.
-/
import Derived.Test.YtoapmmmmdfmaeacWalkU
import Derived.Test.YtoapmmmmdfmaeacGuardM
namespace Go.Proofs.Ytoapmmmmdfmaeac
open Go.RowKit
set_option linter.unusedVariables false

theorem rest_next (a k : Nat) : restL (a + 1) k = restL a k ++ if a = k then [] else [a] := by
  unfold restL
  rw [List.range_succ, List.filter_append]
  congr 1
  by_cases e : a = k
  · subst e; simp
  · simp [e]
theorem rest_same {a k : Nat} (h : a = k) : restL (a + 1) k = restL a k := by rw [rest_next, if_pos h, List.append_nil]
theorem rest_more {a k : Nat} (h : a ≠ k) : restL (a + 1) k = restL a k ++ [a] := by rw [rest_next, if_neg h]
theorem rest_len (k : Nat) : ∀ a, (restL a k).length = if k < a then a - 1 else a
  | 0 => rfl
  | a + 1 => by
    rw [rest_next, List.length_append, rest_len k a]
    by_cases e : a = k
    · subst e; rw [if_pos rfl, if_neg (by omega), if_pos (by omega)]; simp
    · rw [if_neg e]
      by_cases h : k < a
      · rw [if_pos h, if_pos (by omega)]; simp; omega
      · rw [if_neg h, if_neg (by omega)]; simp
theorem rest_mem {a k b : Nat} (h : b ∈ restL a k) : b < a := List.mem_range.1 (List.mem_filter.1 h).1
theorem rest_split {i k : Nat} (hik : i ≠ k) : ∀ m, ∃ T, restL (i + 1 + m) k = restL i k ++ i :: T ∧ ∀ b ∈ T, i < b
  | 0 => ⟨[], rest_more hik, fun b hb => nomatch hb⟩
  | m + 1 => by
    obtain ⟨T, h1, h2⟩ := rest_split hik m
    refine ⟨T ++ if i + 1 + m = k then [] else [i + 1 + m], ?_, fun b hb => ?_⟩
    · rw [show i + 1 + (m + 1) = (i + 1 + m) + 1 by omega, rest_next, h1, List.append_assoc]
      rfl
    · rcases List.mem_append.1 hb with hb | hb
      · exact h2 b hb
      · split at hb
        · cases hb
        · rw [List.mem_singleton.1 hb]; omega
/-- One place set. -/
theorem rest_set {α : Type} {i k n : Nat} (hik : i ≠ k) (hi : i < n) (f : Nat → α) (v : α) : ((restL n k).map f).set (restL i k).length v = (restL n k).map fun b => if b = i then v else f b := by
  obtain ⟨T, h1, h2⟩ := rest_split hik (n - (i + 1))
  rw [show i + 1 + (n - (i + 1)) = n by omega] at h1
  rw [h1]
  simp only [List.map_append, List.map_cons, if_true]
  rw [List.set_append_right _ _ (by simp)]
  simp only [List.length_map, Nat.sub_self, List.set_cons_zero]
  have e1 : (restL i k).map (fun b => if b = i then v else f b) = (restL i k).map f := List.map_congr_left fun b hb => if_neg (by have := rest_mem hb; omega)
  have e2 : T.map (fun b => if b = i then v else f b) = T.map f := List.map_congr_left fun b hb => if_neg (by have := h2 b hb; omega)
  rw [e1, e2]
theorem rest_at {i k n : Nat} (hik : i ≠ k) (hi : i < n) : (restL i k).length < (restL n k).length := by
  obtain ⟨T, h1, _⟩ := rest_split hik (n - (i + 1))
  rw [show i + 1 + (n - (i + 1)) = n by omega] at h1
  rw [h1]
  simp
/-- The row of the cell a. -/
def hitR (L : List Nat) (k a b : Nat) : List Int := (restL b k).map (hitE L a)
def rowsTo (L : List Nat) (k a : Nat) : Mat := (restL a k).map fun x => hitR L k x L.length
def rightTo (L : List Nat) (k a : Nat) : List Nat := (restL a k).map fun x => pcN 9 (L[x]?.getD 0)
theorem rows_all (L : List Nat) (k : Nat) : rowsTo L k L.length = hitM L k := rfl
theorem hitO_at {L : List Nat} {i k a : Nat} (hik : i ≠ k) (hi : i < L.length) (ha : a < (restL L.length k).length) :
    (hitO L i k)[a]?.getD [] = ((hitM L k)[a]?.getD []).set (restL i k).length (((rightTo L k L.length)[a]?.getD 0 : Nat) : Int) := by
  unfold hitO hitM rightTo
  rw [List.getElem?_map, List.getElem?_map, List.getElem?_map, List.getElem?_eq_getElem ha]
  simp only [Option.map_some, Option.getD_some]
  rw [rest_set hik hi]
theorem hitO_len (L : List Nat) (i k : Nat) : (hitO L i k).length = (restL L.length k).length := by simp [hitO]
theorem hitM_len (L : List Nat) (k : Nat) : (hitM L k).length = (restL L.length k).length := by simp [hitM]
theorem hitM_row {L : List Nat} {k a : Nat} (ha : a < (restL L.length k).length) : ((hitM L k)[a]?.getD []).length = (restL L.length k).length := by
  unfold hitM
  rw [List.getElem?_map, List.getElem?_eq_getElem ha]
  simp
theorem hitE_bd {L : List Nat} (hL : ∀ k : Nat, pcN 9 (L[k]?.getD 0) ≤ 9) (a b : Nat) : -9 ≤ hitE L a b ∧ hitE L a b ≤ 9 := by
  have := hL a
  unfold hitE
  split
  · omega
  · rcases bitN_two (L[a]?.getD 0) b with h | h <;> rw [h] <;> omega
theorem hitM_in {L : List Nat} (hL : ∀ k : Nat, pcN 9 (L[k]?.getD 0) ≤ 9) (k : Nat) : matIn (hitM L k) = true := by
  unfold matIn hitM
  refine List.all_eq_true.2 fun r hr => List.all_eq_true.2 fun x hx => ?_
  obtain ⟨a, _, rfl⟩ := List.mem_map.1 hr
  obtain ⟨b, _, rfl⟩ := List.mem_map.1 hx
  have := hitE_bd hL a b
  exact decide_eq_true (by omega)
theorem hitO_in {L : List Nat} (hL : ∀ k : Nat, pcN 9 (L[k]?.getD 0) ≤ 9) (i k : Nat) : matIn (hitO L i k) = true := by
  unfold matIn hitO
  refine List.all_eq_true.2 fun r hr => List.all_eq_true.2 fun x hx => ?_
  obtain ⟨a, _, rfl⟩ := List.mem_map.1 hr
  obtain ⟨b, _, rfl⟩ := List.mem_map.1 hx
  have h1 := hitE_bd hL a b
  have h2 := hL a
  refine decide_eq_true ?_
  split <;> omega
theorem num_is {u d : Int} {x : Nat × Nat} (h : numOk u d x = true) : (0 < u ∧ u ≤ 1000000000) ∧ (0 < d ∧ d ≤ 1000000000) ∧ fracP u.toNat d.toNat = x ∧ okF x = true := by
  unfold numOk at h
  simp only [Bool.and_eq_true, decide_eq_true_eq, beq_iff_eq] at h
  obtain ⟨⟨⟨⟨⟨h1, h2⟩, h3⟩, h4⟩, h5⟩, h6⟩ := h
  exact ⟨⟨h1, h2⟩, ⟨h3, h4⟩, h5, h6⟩
/-- A row of natural numbers: its cells, and one of them written. -/
theorem own_nat {W : World} {base g n c : Nat} {L : List Nat} (h : W.ownsRow base 3 1 (.slice (some ⟨g, 0, none⟩) n c) n (ints (natI L))) {k : Nat} (hk : k < n) (b : Nat) :
    W.cell? ⟨g, k, none⟩ = some (.int .i64 ((L[k]?.getD 0 : Nat) : Int)) ∧ W.frozen? ⟨g, k, none⟩ = false ∧ (W.setCell ⟨g, k, none⟩ (.int .i64 (b : Int))).ownsRow base 3 1 (.slice (some ⟨g, 0, none⟩) n c) n (ints (natI (L.set k b))) ∧ W.grownBy (W.setCell ⟨g, k, none⟩ (.int .i64 (b : Int))) (some g) := by
  obtain ⟨h1, h2, h3, h4⟩ := own_int h hk (b : Int)
  rw [natI_at] at h1
  refine ⟨h1, h2, ?_, h4⟩
  rwa [show (natI L).set k (b : Int) = natI (L.set k b) by simp [natI, List.map_set]] at h3
theorem row_nat {w : World} {g n : Nat} {L : List Nat} (h : Row w (some ⟨g, 0, none⟩) (ints (natI L))) (hn : L.length = n) {k : Nat} (hk : k < n) : w.cell? ⟨g, k, none⟩ = some (.int .i64 ((L[k]?.getD 0 : Nat) : Int)) := by
  obtain ⟨_, ⟨rfl⟩, hc⟩ := h.int (k := k) (by rw [natI_len]; omega)
  rwa [natI_at, show (⟨g, 0, none⟩ : Addr).add k = ⟨g, k, none⟩ by unfold Addr.add; split <;> simp_all] at hc
end Go.Proofs.Ytoapmmmmdfmaeac
