
/-
  The desk: the model's RunDesk, off the contracts of what it asks (given).
-/
import Derived.Test.YtmfdlijkpdgimaaGreatDoorDeskE
namespace Go.Proofs.YtmfdlijkpdgimaaGreatDoor
open Go.RowKit
set_option linter.unusedVariables false

theorem row_block {w : World} {g : Nat} {x y : Int} (h : Row w (some ⟨g, 0, none⟩) (ints [x, y])) : g < w.heap.size := by
  have := (row_two h).1
  refine Classical.byContradiction fun hn => ?_
  have hz : w.heap[g]? = none := Array.getElem?_eq_none (by omega)
  simp [World.cell?, hz] at this
set_option maxHeartbeats 2000000 in
set_option maxRecDepth 100000 in
theorem specRunDesk_c (D : DeskF) (Q : Int → Int → List Int) (hS : DeskS D) (hC : DeskC D Q) (lines : List ByteArray) (A : Option Addr) (n c : Nat) (w : World) (hn : lines.length = n) (hl : ∀ i, i < n → (lines[i]?.getD ⟨#[]⟩).size ≤ 1073741824) (hr : Row w A (strsV lines)) :
    Calls Tryz.prog 7 #[.slice A n c] w (Plain (.string (deskB D lines)) w) := by
  by_cases h20 : 20 < n
  · have hA : Hid (deskB D lines = ⟨#[]⟩) := hide (by unfold deskB; rw [hn, if_pos h20])
    have h20' : (20 : Int) < (n : Int) := by omega
    clear hS hC hl
    go_enter Tryz.func7, Tryz.ntmps7
    go_wp2_with fail
    go_ret
    exact ⟨by rw [hA.out]; rfl, Below.refl _ _⟩
  · have hA : Hid (deskB D lines = (deskTo D lines n).1) := hide (by unfold deskB; rw [hn, if_neg h20])
    have h20' : ¬ (20 : Int) < (n : Int) := by omega
    have HAN := hide (fun (i : Nat) (hi : i < n) (g c : Nat) (w5 : World) (hg : g < w5.heap.size) (h5 : Row w5 (some ⟨g, 0, none⟩) (ints [(deskTo D lines i).2.1, (deskTo D lines i).2.2])) => answer_c D Q hS hC _ _ (desk_brd D lines i) (lines[i]?.getD ⟨#[]⟩) (hl i hi) g c w5 hg h5)
    have HT := hide (fun (i : Nat) => show deskTo D lines (i + 1) = ((deskTo D lines i).1 ++ (answerB D (deskTo D lines i).2.1 (deskTo D lines i).2.2 (lines[i]?.getD ⟨#[]⟩)).1 ++ ⟨#[10]⟩, (answerB D (deskTo D lines i).2.1 (deskTo D lines i).2.2 (lines[i]?.getD ⟨#[]⟩)).2) from rfl)
    have HZ := hide (fun (i : Nat) => desk_size hS lines i)
    have HZA := hide (fun (i : Nat) => show (answerB D (deskTo D lines i).2.1 (deskTo D lines i).2.2 (lines[i]?.getD ⟨#[]⟩)).1.size ≤ 2000 from answer_size hS _ _ _ _)
    have H0 : Hid (deskTo D lines 0 = (⟨#[]⟩, 3, 3)) := rfl
    have HR := hide hr
    have HL := hide hn
    clear hS hC hl hr hn
    generalize deskTo D lines = T at *
    go_enter Tryz.func7, Tryz.ntmps7
    have hb0 := (Below.refl w.heap.size w).alloc (Nat.le_refl _) (.cells #[.int .i64 3, .int .i64 3] 3)
    have hr0 : Row (w.alloc (.cells #[.int .i64 3, .int .i64 3] 3)) (some ⟨w.heap.size, 0, none⟩) (ints [3, 3]) := row_new _ _ _ rfl
    have B0 := hide hb0
    have R0 := hide hr0
    clear hb0 hr0
    go_wp2_with fail
    go_loopw [3, 4, 5] (fun bv ov iv wr => ∃ (i g c : Nat), i ≤ n ∧ iv = .int .i64 (i : Int) ∧ bv = .slice (some ⟨g, 0, none⟩) 2 c ∧ ov = .string (T i).1 ∧ Row wr (some ⟨g, 0, none⟩) (ints [(T i).2.1, (T i).2.2]) ∧ Below w.heap.size w wr) (fun _ _ iv _ => n - (intOf iv).toNat)
    case atStart => exact ⟨0, _, _, Nat.zero_le _, rfl, rfl, by rw [H0.out], by rw [H0.out]; exact R0.out, B0.out⟩
    case round =>
      obtain ⟨i, g, cb, hi, rfl, rfl, rfl, hrow, hb⟩ := hrel
      obtain ⟨wo, rfl⟩ : ∃ wo : World, wo = wr := ⟨_, rfl⟩
      by_cases hlt : i < n
      · obtain ⟨ad, rfl, u1⟩ := str_row (HR.out.below hb) (k := i) (by rw [HL.out]; exact hlt)
        have HAi := hide (HAN.out i hlt g cb wo (row_block hrow) hrow)
        have HTi := hide (HT.out i)
        have hz := HZ.out i
        have hza := HZA.out i
        have k0 : (0 : Int) ≤ (i : Int) := by omega
        have k1 : (i : Int) < (n : Int) := by omega
        have HB := hide hb
        clear HAN HT HZ HZA H0 hrow hb R0 B0
        generalize answerB D (T i).2.1 (T i).2.2 (lines[i]?.getD ⟨#[]⟩) = a at *
        generalize lines[i]?.getD ⟨#[]⟩ = s at *
        obtain ⟨o, ho⟩ : ∃ o, (T i).1 = o := ⟨_, rfl⟩
        rw [ho] at HTi hz
        rw [ho]
        have h10 : (ByteArray.mk #[10]).size = 1 := rfl
        have hs1 : o.size + a.1.size ≤ 9223372036854775807 := by omega
        have hs2 : (o ++ a.1).size + (ByteArray.mk #[10]).size ≤ 9223372036854775807 := by rw [ByteArray.size_append]; omega
        clear h10 hz hza
        go_wp2_with fail
        refine HAi.out.mono ?_
        rintro e w5 ⟨g5, c5, rfl, r5, b5⟩
        go_wp2_with fail
        exact ⟨⟨i + 1, g5, c5, hlt, by go_num, rfl, by rw [HTi.out], by rw [HTi.out]; exact r5, below_then HB.out HB.out.size b5⟩, by simp [intOf]; omega⟩
      · obtain rfl : i = n := by omega
        go_wp2_with fail
        go_ret
        exact ⟨by rw [hA.out]; rfl, hb⟩
end Go.Proofs.YtmfdlijkpdgimaaGreatDoor
