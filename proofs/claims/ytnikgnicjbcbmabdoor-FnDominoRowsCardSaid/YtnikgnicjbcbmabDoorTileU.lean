
/-
  Covers of boards: the model's TileByRows.
-/
import Derived.Test.YtnikgnicjbcbmabDoorTileS
import Derived.StillTailTactics
namespace Go.Proofs.YtnikgnicjbcbmabDoor
open Go.RowKit
set_option linter.unusedVariables false

theorem spr_congr {w : Nat} (hw : 1 ≤ w) {g g' : Nat → Bool} (h : ∀ i, i < w → g i = g' i) (s : Nat) (next : Nat → Nat) : ∀ (j d : Nat), j ≤ w → spr w g s next j d = spr w g' s next j d
  | 0, d, _ => rfl
  | 1, d, _ => by rw [spr_one, spr_one, h (w - 1) (by omega)]
  | j + 2, d, hj => by
    rw [spr_two, spr_two, h (w - (j + 2)) (by omega), h (w - (j + 2) + 1) (by omega), spr_congr hw h s next (j + 1) d (by omega), spr_congr hw h s next (j + 1) _ (by omega), spr_congr hw h s next j d (by omega)]
def nowL (w : Nat) (g : Nat → Bool) (r : Nat) : List Nat := (List.range (2 ^ w)).map (nowT w g r)
def partL (w : Nat) (g : Nat → Bool) (r S : Nat) : List Nat := (List.range (2 ^ w)).map (nextT w (rowG w r g) (nowT w g r) S)
theorem nowL_len (w : Nat) (g : Nat → Bool) (r : Nat) : (nowL w g r).length = 2 ^ w := by simp [nowL]
theorem partL_len (w : Nat) (g : Nat → Bool) (r S : Nat) : (partL w g r S).length = 2 ^ w := by simp [partL]
theorem nowL_at {w : Nat} {g : Nat → Bool} {r s : Nat} (h : s < 2 ^ w) : (nowL w g r)[s]?.getD 0 = nowT w g r s := by
  simp [nowL, List.getElem?_map, List.getElem?_range h]
theorem partL_at {w : Nat} {g : Nat → Bool} {r S t : Nat} (h : t < 2 ^ w) : (partL w g r S)[t]?.getD 0 = nextT w (rowG w r g) (nowT w g r) S t := by
  simp [partL, List.getElem?_map, List.getElem?_range h]
theorem partL_zero (w : Nat) (g : Nat → Bool) (r : Nat) : partL w g r 0 = List.replicate (2 ^ w) 0 := by
  apply List.ext_getElem
  · simp [partL]
  · intro i h1 h2; simp [partL, nextT, sumN]
theorem partL_full (w : Nat) (g : Nat → Bool) (r : Nat) : partL w g r (2 ^ w) = nowL w g (r + 1) := rfl
theorem partL_skip {w : Nat} {g : Nat → Bool} {r S : Nat} (h : nowT w g r S = 0) : partL w g r (S + 1) = partL w g r S := by
  unfold partL
  refine List.map_congr_left fun t _ => ?_
  unfold nextT
  simp only [sumN]
  rw [h]; simp
theorem partL_add {w : Nat} (hw : 1 ≤ w) {g g' : Nat → Bool} {r S : Nat} (hg : ∀ i, i < w → g' i = rowG w r g i) : addT w g' S w 0 (nowT w g r S) (partL w g r S) = partL w g r (S + 1) := by
  symm
  refine addT_same (by rw [partL_len, partL_len]) fun t ht => ?_
  rw [partL_len] at ht
  rw [partL_at ht, partL_at ht, spr_congr hw hg S (ind t) w 0 (Nat.le_refl _)]
  rfl
theorem pow1024 {r : Nat} (h : r ≤ 5) : 1024 ^ r ≤ 1125899906842624 := Nat.le_trans (Nat.pow_le_pow_right (by omega) h) (by decide)
theorem part_room {w : Nat} (hw : w ≤ 5) (g : Nat → Bool) {r S : Nat} (hr : r < 5) (hS : S < 2 ^ w) : RoomT (partL w g r S) (nowT w g r S) w := fun t ht => by
  rw [partL_len] at ht
  rw [partL_at ht]
  have h1 := part_bd hw g r S t (by omega)
  have h2 := pow1024 (r := r + 1) (by omega)
  have h3 := now_bd hw g r S
  have h4 := pow1024 (r := r) (by omega)
  have h5 : 2 ^ w ≤ 32 := Nat.le_trans (Nat.pow_le_pow_right (by omega) hw) (by decide)
  have h6 : nowT w g r S * 2 ^ w ≤ 1125899906842624 * 32 := Nat.mul_le_mul (by omega) h5
  omega
theorem now_zero (w : Nat) (g : Nat → Bool) : (List.replicate (2 ^ w) 0).set 0 1 = nowL w g 0 := by
  apply List.ext_getElem
  · simp [nowL]
  · intro i h1 h2
    rw [List.getElem_set]
    simp only [nowL, List.getElem_map, List.getElem_range, List.getElem_replicate]
    show _ = if i = 0 then 1 else 0
    by_cases e : 0 = i
    · rw [if_pos e, if_pos e.symm]
    · rw [if_neg e, if_neg (fun h => e h.symm)]
theorem made_nats {w : World} {base : Nat} {v : Value} {n : Nat} {z : Value} (hz : z.cells = #[z]) (h : w.ownsRow base 3 1 v n (madeCells z.cells (n * 1)).toList) : w.ownsRow base 3 1 v n (List.replicate n z) := by
  rwa [hz, Nat.mul_one, toList_madeCells_one] at h
theorem natV_rep (n : Nat) : ints (natV (List.replicate n 0)) = List.replicate n (.int .i64 0) := by simp [natV, ints]

theorem row_sub {w : World} {g : Nat} {l : List Bool} (h : Row w (some ⟨g, 0, none⟩) (boolsV l)) (lo k : Nat) : Row w (some ⟨g, lo, none⟩) (boolsV ((l.drop lo).take k)) := fun i hi => by
  simp only [List.length_map, List.length_take, List.length_drop] at hi
  obtain ⟨ad, e, hc⟩ := h (lo + i) (by simp; omega)
  injection e with e
  subst e
  refine ⟨_, rfl, ?_⟩
  have e1 : (⟨g, lo, none⟩ : Addr).add i = (⟨g, 0, none⟩ : Addr).add (lo + i) := by
    unfold Addr.add
    by_cases h0 : i = 0
    · subst h0
      by_cases h1 : lo = 0
      · subst h1; rfl
      · rw [if_pos rfl, if_neg (by omega)]; simp
    · rw [if_neg h0, if_neg (by omega)]; simp
  rw [e1, hc]
  simp
theorem own_free0 {w w' : World} {base e size n : Nat} {v : Value} {xs : List Value} (h : w.ownsRow base e size v n xs) (hg : w.grownBy w' none) : w'.ownsRow base e size v n xs := h.kept hg (by cases hv : v.ownBlock <;> simp)
theorem own_freeS {w w' : World} {base e size n g : Nat} {v : Value} {xs : List Value} (h : w.ownsRow base e size v n xs) (hg : w.grownBy w' (some g)) (hne : v.ownBlock ≠ some g) : w'.ownsRow base e size v n xs := h.kept hg (.inr hne)

end Go.Proofs.YtnikgnicjbcbmabDoor
