
/-
  Pegs: the model's ComesFrom, FewestLeft, CanCome.
-/
import Derived.Test.YtgbbmnnpphkkbaaPegE
namespace Go.Proofs.Ytgbbmnnpphkkbaa
open Go.RowKit
set_option linter.unusedVariables false

def comesV (bc br s : Int) : List Int := if PegS bc br s then ascP (natI (comeL bc.toNat (bc.toNat * br.toNat) s.toNat)) else []
theorem comesV_nat {w h x : Nat} (hw : 1 ≤ w ∧ w ≤ 5) (hh : 1 ≤ h ∧ h ≤ 5) (h12 : w * h ≤ 12) (hx : x < 2 ^ (w * h)) : comesV w h x = ascP (natI (comeL w (w * h) x)) := if_pos (pegS_of hw hh h12 hx)
theorem asc_len (l : List Int) : (ascP l).length = l.length := by rw [ascP_eq, List.length_mergeSort]
theorem comesV_len (bc br s : Int) : (comesV bc br s).length ≤ 4096 := by
  unfold comesV
  split
  · rename_i hP
    obtain ⟨w, h, x, rfl, rfl, rfl, hw, hh, h12, hx⟩ := pegS_nat hP
    simp only [Int.toNat_natCast]
    rw [asc_len, natI_len]
    exact Nat.le_trans (come_len hw.1 hx) (pow12 h12).2
  · simp
theorem cnt_pc : ∀ (k x : Nat), cntB x k = pcN k x
  | 0, x => rfl
  | k + 1, x => by rw [cnt_half, cnt_pc k (x / 2), pcN]
theorem pc_cnt {n x : Nat} (hn : n ≤ 12) (hx : x < 2 ^ n) : pcN 12 x = cntB x n := by
  have := cnt_more hx (12 - n)
  rw [← cnt_pc, show 12 = n + (12 - n) by omega]
  exact this
theorem cnt_le (x : Nat) : ∀ k, cntB x k ≤ k
  | 0 => Nat.le_refl _
  | k + 1 => by have := cnt_le x k; simp only [cntB]; have := Bool.toNat_le (x.testBit k); omega
theorem lst_most {n : Nat} {L : List Nat} {b : Nat} (k : Nat) : lstTo n L b k ≤ b := (lst_le k).1
def fewV (bc br s : Int) : Int := if PegS bc br s then ((fewL bc.toNat (bc.toNat * br.toNat) s.toNat : Nat) : Int) else -1
theorem fewV_nat {w h x : Nat} (hw : 1 ≤ w ∧ w ≤ 5) (hh : 1 ≤ h ∧ h ≤ 5) (h12 : w * h ≤ 12) (hx : x < 2 ^ (w * h)) : fewV w h x = ((fewL w (w * h) x : Nat) : Int) := if_pos (pegS_of hw hh h12 hx)
def canV (bc br a b : Int) : Bool := decide (PegS bc br a) && (decide (PegS bc br b) && (comeL bc.toNat (bc.toNat * br.toNat) a.toNat).contains b.toNat)
theorem canV_nat {w h a b : Nat} (hw : 1 ≤ w ∧ w ≤ 5) (hh : 1 ≤ h ∧ h ≤ 5) (h12 : w * h ≤ 12) (ha : a < 2 ^ (w * h)) (hb : b < 2 ^ (w * h)) : canV w h a b = (comeL w (w * h) a).contains b := by
  unfold canV
  rw [decide_eq_true (pegS_of hw hh h12 ha), decide_eq_true (pegS_of hw hh h12 hb), Bool.true_and, Bool.true_and]
  rfl
theorem natI_has (L : List Nat) (b : Nat) : (natI L).contains (b : Int) = L.contains b := by
  rw [Bool.eq_iff_iff, List.contains_iff_mem, List.contains_iff_mem]
  unfold natI
  rw [List.mem_map]
  constructor
  · rintro ⟨x, hx, e⟩
    have e : (x : Int) = (b : Int) := e
    have : x = b := by omega
    exact this ▸ hx
  · exact fun h => ⟨b, h, rfl⟩
end Go.Proofs.Ytgbbmnnpphkkbaa
