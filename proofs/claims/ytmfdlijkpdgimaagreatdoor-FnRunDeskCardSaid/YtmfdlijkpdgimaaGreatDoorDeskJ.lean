
/-
  The desk: what it asks, by the chapters' contracts (the model's side).
-/
import Derived.Test.YtmfdlijkpdgimaaGreatDoorDeskG
import Derived.Test.YtmfdlijkpdgimaaGreatDoorTilesM
import Derived.Test.YtmfdlijkpdgimaaGreatDoorLightG
import Derived.Test.YtmfdlijkpdgimaaGreatDoorPegsM
import Derived.Test.YtmfdlijkpdgimaaGreatDoorChasesM
namespace Go.Proofs.YtmfdlijkpdgimaaGreatDoor
open Go.RowKit
set_option linter.unusedVariables false

def sKing : List UInt8 := [107, 105, 110, 103]
def askCells (w h : Int) (k : ByteArray) (x : Int) : List Int := if Brd w h ∧ 0 ≤ x ∧ x < w * h then (match kindL k.toList with | some (ss, far) => reachP w h far [] x ss | none => []) else []
def deskD : DeskF where
  cells := askCells
  tiles := fun w h => coversP w h []
  lit := fun w h x => decide (LitS w h x)
  darks := fewVL
  peg := fun w h x => decide (PegS w h x)
  pegs := fewV
  folds := fun w h => natI (foldV w h sKing)
def deskQ (w h : Int) : List Int := natI (setsP w h false both)
theorem king_is : kindL sKing = some (both, false) := rfl
theorem king_small {w h : Int} (hS : Small w h) : smallK w h sKing = some (both, false) := by
  unfold smallK
  rw [if_pos hS, king_is]
theorem fold_few : chTab.all (fun e => Nat.ble e.2.2.length 9 && e.2.2.all fun x => Nat.ble x 8) = true := by decide +kernel
theorem fold_vals {L : List Nat} : (foldN L).length ≤ 9 ∧ ∀ x ∈ foldN L, x ≤ 8 := by
  unfold foldN chOf
  cases hf : chTab.find? (fun e => e.1 == L) with
  | none => exact ⟨Nat.zero_le _, fun x h => absurd h List.not_mem_nil⟩
  | some e =>
    have h := List.all_eq_true.1 fold_few e (List.mem_of_find?_eq_some hf)
    rw [Bool.and_eq_true, Nat.ble_eq] at h
    exact ⟨h.1, fun x hx => Nat.le_of_ble_eq_true (List.all_eq_true.1 h.2 x hx)⟩
theorem foldV_vals (w h : Int) (s : List UInt8) : (foldV w h s).length ≤ 9 ∧ ∀ x ∈ foldV w h s, x ≤ 8 := by
  unfold foldV
  cases smallK w h s with
  | none => exact ⟨Nat.zero_le _, fun x h => absurd h List.not_mem_nil⟩
  | some p => exact fold_vals
theorem min_le0 (b : Nat) (S : List Nat) : ∀ k, minTo b S k ≤ b
  | 0 => Nat.le_refl _
  | k + 1 => Nat.le_trans (Nat.min_le_left _ _) (min_le0 b S k)
theorem ask_len (w h : Int) (k : ByteArray) (x : Int) : (askCells w h k x).length ≤ 40 := by
  unfold askCells
  split
  · cases hk : kindL k.toList with
    | none => exact Nat.zero_le _
    | some p =>
      obtain ⟨ss, far⟩ := p
      have h1 := (kind_ok hk).2.1
      have h2 := reach_len w h far [] x ss
      simp only
      omega
  · exact Nat.zero_le _
theorem ask_vals (w h : Int) (k : ByteArray) (x : Int) (i : Nat) (hi : i < (askCells w h k x).length) : 0 ≤ (askCells w h k x)[i]?.getD 0 ∧ (askCells w h k x)[i]?.getD 0 < 25 := by
  unfold askCells at hi ⊢
  split at hi
  · rename_i hq
    obtain ⟨⟨h1, h2, h3, h4⟩, _, _⟩ := id hq
    rw [if_pos hq]
    cases hk : kindL k.toList with
    | none => rw [hk] at hi; exact absurd hi (by simp)
    | some p =>
      obtain ⟨ss, far⟩ := p
      rw [hk] at hi
      simp only at hi ⊢
      have := reach_cells h1 h2 h3 h4 i hi
      have := (mul_bd h1 h2 h3 h4).2
      omega
  · exact absurd hi (by simp)
theorem covers_vals (w h : Int) : -1 ≤ coversP w h [] ∧ coversP w h [] ≤ 33554432 := by
  unfold coversP
  split
  · rename_i hH
    obtain ⟨⟨h1, h2, h3, h4⟩, _⟩ := hH
    have hb := tile_bd w.toNat (w.toNat * h.toNat) (w.toNat * h.toNat) (inL [])
    have hm : w.toNat * h.toNat ≤ 25 := Nat.mul_le_mul (show w.toNat ≤ 5 by omega) (show h.toNat ≤ 5 by omega)
    have := Nat.le_trans hb (Nat.pow_le_pow_right (n := 2) (by omega) hm)
    omega
  · omega
theorem darks_vals (w h x : Int) : -1 ≤ fewVL w h x ∧ fewVL w h x ≤ 12 := by
  unfold fewVL
  split
  · rename_i hL
    have h12 := hL.1.2
    unfold fewI
    split
    · have := min_le0 (w * h).toNat (dblTo (datL w.toNat h.toNat).quiet [(lessP (datL w.toNat h.toNat).leads (0, x.toNat)).1] (datL w.toNat h.toNat).quiet.length) (dblTo (datL w.toNat h.toNat).quiet [(lessP (datL w.toNat h.toNat).leads (0, x.toNat)).1] (datL w.toNat h.toNat).quiet.length).length
      show -1 ≤ ((minTo _ _ _ : Nat) : Int) ∧ ((minTo _ _ _ : Nat) : Int) ≤ 12
      omega
    · show -1 ≤ (-1 : Int) ∧ (-1 : Int) ≤ 12
      omega
  · omega
theorem pegs_vals (w h x : Int) : -1 ≤ fewV w h x ∧ fewV w h x ≤ 12 := by
  by_cases hP : PegS w h x
  · obtain ⟨a, b, y, rfl, rfl, rfl, hw, hh, h12, hy⟩ := pegS_nat hP
    rw [fewV_nat hw hh h12 hy]
    have h1 := few_le (n := a * b) hw.1 hy .self
    have h2 := cnt_le y (a * b)
    omega
  · unfold fewV
    rw [if_neg hP]
    omega
theorem small18_of {z a b : Int} (h : a ≤ z ∧ z ≤ b) (ha : -1000000000000000000 < a) (hb : b < 1000000000000000000) : small18 z := ⟨by omega, by omega⟩
theorem deskD_s : DeskS deskD where
  cells w h k x := ⟨Nat.le_trans (ask_len w h k x) (by decide), fun i hi => by
    have := ask_vals w h k x i hi
    exact ⟨by show _ < (askCells w h k x)[i]?.getD 0; omega, by show (askCells w h k x)[i]?.getD 0 < _; omega⟩⟩
  tiles w h := small18_of (covers_vals w h) (by decide) (by decide)
  darks w h x := small18_of (darks_vals w h x) (by decide) (by decide)
  pegs w h x := small18_of (pegs_vals w h x) (by decide) (by decide)
  folds w h := by
    obtain ⟨h1, h2⟩ := foldV_vals w h sKing
    refine ⟨by show (natI _).length ≤ 100; rw [natI_len]; omega, fun i hi => ?_⟩
    have hi' : i < (foldV w h sKing).length := by rw [← natI_len]; exact hi
    show small18 ((natI (foldV w h sKing))[i]?.getD 0)
    rw [natI_at, List.getElem?_eq_getElem hi', Option.getD_some]
    have := h2 _ (List.getElem_mem hi')
    exact ⟨by omega, by omega⟩
theorem piece_kind {l : List UInt8} (h : pieceB l = true) : ∃ ss far, kindL l = some (ss, far) := by
  unfold pieceB at h
  simp only [Bool.or_eq_true, beq_iff_eq] at h
  rcases h with ((((rfl | rfl) | rfl) | rfl) | rfl) | rfl <;> exact ⟨_, _, rfl⟩
theorem bools_none (n i : Nat) (h : i < n) : fnB (List.replicate n false) i = inL [] i := by
  unfold fnB inL
  rw [List.getElem?_replicate]
  split <;> rfl
theorem tile_cg {w n : Nat} {c c' : Nat → Bool} (h : c = c') : tileT w n n c = tileT w n n c' := by rw [h]
theorem bools_fn (n : Nat) : fnB (List.replicate n false) = inL [] := by
  funext i
  unfold fnB inL
  rw [List.getElem?_replicate]
  split <;> rfl
theorem boolsV_rep (n : Nat) : boolsV (List.replicate n false) = List.replicate n (.bool false) := by simp [boolsV]
theorem deskD_c : DeskC deskD deskQ where
  cells w h k x O oc W hB hk h0 h1 := by
    obtain ⟨ss, far, hkk⟩ := piece_kind hk
    have he : deskD.cells w h k x = reachP w h far [] x ss := by
      show askCells w h k x = _
      unfold askCells
      rw [if_pos ⟨hB, h0, h1⟩, hkk]
    rw [he]
    obtain ⟨b1, b2, b3, b4⟩ := hB
    exact specReach_c w h x k O oc ss far [] W hkk b1 b2 b3 b4 h0 h1 (Row.empty _ _) (by simp)
  tiles w h n A c W hB hn hr := by
    obtain ⟨b1, b2, b3, b4⟩ := id hB
    obtain ⟨a, rfl⟩ := Int.eq_ofNat_of_zero_le (show 0 ≤ w by omega)
    obtain ⟨b, rfl⟩ := Int.eq_ofNat_of_zero_le (show 0 ≤ h by omega)
    have hnn : n = a * b := by rw [← Int.natCast_mul] at hn; exact Int.ofNat.inj hn
    subst hnn
    have he : deskD.tiles (a : Int) (b : Int) = ((tileT a (a * b) (a * b) (inL []) : Nat) : Int) := by
      show coversP (a : Int) (b : Int) [] = _
      unfold coversP
      rw [if_pos ⟨hB, AscTo.zero _ _⟩]
      rfl
    have ht := tile_c a b (a * b) rfl ⟨by omega, by omega⟩ ⟨by omega, by omega⟩ (a * b) (Nat.le_refl _) (List.replicate (a * b) false) A c W (by simp) (by rw [boolsV_rep]; exact hr)
    rw [Nat.sub_self, bools_fn] at ht
    rw [he]
    exact ht
  lit w h x W := validLights_c w h x W
  darks w h x W := specFewestPresses_c w h x W
  peg w h x W := validPegs_c w h x W
  pegs w h x W := specFewestLeft_c w h x W
  sets w h W hB h9 := by
    have hS : Small w h := ⟨hB.1, hB.2.1, hB.2.2.1, hB.2.2.2, h9⟩
    have := reaches_c w h ⟨#[107, 105, 110, 103]⟩ both false W (by decide +kernel) hS
    unfold deskQ
    rw [natI_len]
    exact this
  folds w h A c W hB h9 hr := by
    have hS : Small w h := ⟨hB.1, hB.2.1, hB.2.2.1, hB.2.2.2, h9⟩
    obtain ⟨n, hC⟩ := chase_of (s := sKing) hS king_is
    have hf : deskD.folds w h = natI (foldN (setsP w h false both)) := by
      show natI (foldV w h sKing) = _
      unfold foldV
      rw [king_small hS]
    have hq : (deskQ w h).length = n := by
      unfold deskQ
      rw [natI_len, hC.len]
    rw [hf, hq, natI_len]
    exact foldOrder_c A c _ _ n W hC.len hC.one hC.sets (fold_from hC.len hC.tab) hr
end Go.Proofs.YtmfdlijkpdgimaaGreatDoor
