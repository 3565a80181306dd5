
/-
  The holes of a turned board, purely.
-/
import Derived.Test.YtijidecdokbmnadTileO
namespace Go.Proofs.Ytijidecdokbmnad
open Go.RowKit
set_option linter.unusedVariables false

/-- The first k cells of the turned board whose cells of the board are holes. -/
def turnL (w h : Nat) (hs : List Int) (k : Nat) : List Int := ((List.range k).filter fun x => inL hs (turnC h w x)).map fun (x : Nat) => (x : Int)
theorem turnL_snoc (w h : Nat) (hs : List Int) (k : Nat) : turnL w h hs (k + 1) = turnL w h hs k ++ if inL hs (turnC h w k) then [(k : Int)] else [] := by
  simp only [turnL, List.range_succ, List.filter_append, List.filter_cons, List.filter_nil, List.map_append]
  split <;> rfl
theorem turnL_len (w h : Nat) (hs : List Int) (k : Nat) : (turnL w h hs k).length ≤ k := by
  have := List.length_filter_le (fun x => inL hs (turnC h w x)) (List.range k)
  simpa [turnL] using this
theorem turnL_in (w h : Nat) (hs : List Int) (k i : Nat) : inL (turnL w h hs k) i = (decide (i < k) && inL hs (turnC h w i)) := by
  unfold inL
  rw [Bool.eq_iff_iff]
  simp only [List.contains_iff_mem, Bool.and_eq_true, decide_eq_true_eq]
  unfold turnL
  constructor
  · intro hm
    obtain ⟨x, hx, e⟩ := List.mem_map.1 hm
    obtain rfl : x = i := by omega
    obtain ⟨h1, h2⟩ := List.mem_filter.1 hx
    refine ⟨List.mem_range.1 h1, ?_⟩
    unfold inL at h2
    exact List.contains_iff_mem.1 h2
  · rintro ⟨h1, h2⟩
    exact List.mem_map.2 ⟨i, List.mem_filter.2 ⟨List.mem_range.2 h1, List.contains_iff_mem.2 h2⟩, rfl⟩
theorem ascTo_snoc {n : Int} {l : List Int} {x : Int} (h : AscTo n l l.length) (hx : 0 ≤ x ∧ x < n) (hl : ∀ y ∈ l, y < x) : AscTo n (l ++ [x]) (l ++ [x]).length := fun i hi => by
  simp only [List.length_append, List.length_singleton] at hi
  by_cases e : i < l.length
  · rw [List.getElem?_append_left e, List.getElem?_append_left (by omega)]
    exact h i e
  · obtain rfl : i = l.length := by omega
    rw [List.getElem?_append_right (Nat.le_refl _)]
    simp only [Nat.sub_self, List.getElem?_cons_zero, Option.getD_some]
    refine ⟨hx, fun h0 => ?_⟩
    rw [List.getElem?_append_left (by omega), List.getElem?_eq_getElem (by omega), Option.getD_some]
    exact hl _ (List.getElem_mem _)
theorem turnL_asc {w h : Nat} {hs : List Int} {n : Int} : ∀ k : Nat, (k : Int) ≤ n → AscTo n (turnL w h hs k) (turnL w h hs k).length
  | 0, _ => fun i hi => absurd hi (by simp [turnL])
  | k + 1, hk => by
    rw [turnL_snoc]
    split
    · refine ascTo_snoc (turnL_asc k (by omega)) (by omega) (fun y hy => ?_)
      obtain ⟨x, hx, rfl⟩ := List.mem_map.1 hy
      have := List.mem_range.1 (List.mem_filter.1 hx).1
      omega
    · rw [List.append_nil]
      exact turnL_asc k (by omega)
def backOk (w h : Nat) : Bool := (List.range (w * h)).all fun i => turnC h w (turnC w h i) == i && decide (turnC w h i < w * h)
theorem back_ok : ∀ a : Fin 5, ∀ b : Fin 5, backOk (a.val + 1) (b.val + 1) = true := by decide +kernel
theorem back {w h : Nat} (hw : 1 ≤ w ∧ w ≤ 5) (hh : 1 ≤ h ∧ h ≤ 5) {i : Nat} (hi : i < w * h) : turnC h w (turnC w h i) = i ∧ turnC w h i < w * h := by
  have h0 := back_ok ⟨w - 1, by omega⟩ ⟨h - 1, by omega⟩
  simp only [show w - 1 + 1 = w by omega, show h - 1 + 1 = h by omega] at h0
  have := List.all_eq_true.1 h0 i (List.mem_range.2 hi)
  simpa using this
/-- On the turned board with turned holes there are as many ways, and as many holes. -/
theorem turn_same {w h : Nat} (hw : 1 ≤ w ∧ w ≤ 5) (hh : 1 ≤ h ∧ h ≤ 5) {hs : List Int} (hd : hs.Nodup) (hm : ∀ x ∈ hs, 0 ≤ x ∧ x < ((w * h : Nat) : Int)) :
    tileT h (h * w) (h * w) (inL (turnL w h hs (w * h))) = tileT w (w * h) (w * h) (inL hs) ∧ (turnL w h hs (w * h)).length = hs.length := by
  have hg : ∀ i, i < w * h → inL (turnL w h hs (w * h)) (turnC w h i) = inL hs i := fun i hi => by
    obtain ⟨b1, b2⟩ := back hw hh hi
    rw [turnL_in, decide_eq_true b2, b1]
    rfl
  refine ⟨tile_turn hw hh hg, ?_⟩
  have h1 := free_list hs hd hm
  have ha := turnL_asc (w := w) (h := h) (hs := hs) (n := ((w * h : Nat) : Int)) (w * h) (Int.le_refl _)
  have h2 := free_list (n := w * h) (turnL w h hs (w * h)) (asc_nodup ha) (asc_mem ha)
  have ht := turn_ok ⟨w - 1, by omega⟩ ⟨h - 1, by omega⟩
  simp only [show w - 1 + 1 = w by omega, show h - 1 + 1 = h by omega] at ht
  unfold turnOk at ht
  rw [Bool.and_eq_true] at ht
  have h3 := sumN_perm (f := fun i => if true && !(inL (turnL w h hs (w * h)) i) then 1 else 0) (List.isPerm_iff.1 ht.1)
  have h4 : freeN (fun _ => true) (inL hs) (w * h) = freeN (fun _ => true) (inL (turnL w h hs (w * h))) (w * h) := by
    unfold freeN
    rw [← h3]
    exact sumN_congr _ fun i hi => by rw [hg i hi]
  omega
end Go.Proofs.Ytijidecdokbmnad
