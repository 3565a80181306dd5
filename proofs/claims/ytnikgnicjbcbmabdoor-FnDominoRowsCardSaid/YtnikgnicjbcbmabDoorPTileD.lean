
/-
  The program's covers, cell by cell: covers, firstCover, tilesOf, TileCount.
-/
import Derived.Test.YtnikgnicjbcbmabDoorPTileC
import Derived.Test.YtnikgnicjbcbmabDoorTileO
namespace Go.Proofs.YtnikgnicjbcbmabDoor
open Go.RowKit
set_option linter.unusedVariables false

def sumTo (f : Nat → Nat) (L : List Nat) (k : Nat) : Nat := ((L.take k).map f).sum
theorem sumTo_succ (f : Nat → Nat) (L : List Nat) (k : Nat) (h : k < L.length) : sumTo f L (k + 1) = sumTo f L k + f (L[k]?.getD 0) := by
  unfold sumTo
  rw [List.take_add_one, List.getElem?_eq_getElem h, Option.toList_some, List.map_append, List.sum_append]
  simp
theorem sumTo_all (f : Nat → Nat) (L : List Nat) : sumTo f L L.length = (L.map f).sum := by
  unfold sumTo
  rw [List.take_length]
theorem sumTo_le (f : Nat → Nat) (L : List Nat) (k : Nat) : sumTo f L k ≤ (L.map f).sum := by
  unfold sumTo
  conv => rhs; rw [← List.take_append_drop k L, List.map_append, List.sum_append]
  omega

set_option maxHeartbeats 1000000 in
set_option maxRecDepth 100000 in
theorem covers_c (w h : Nat) (hw : 1 ≤ w ∧ w ≤ 5) (hh : 1 ≤ h ∧ h ≤ 5) : ∀ (left : Nat), left < 2 ^ (w * h) → ∀ (W : World), Tab W →
    Calls Tryd.prog 21 #[boardV (w : Int) (h : Int), .int .i64 (left : Int)] W (Plain (.int .i64 ((covN w (w * h) left : Nat) : Int)) W) := by
  intro left
  induction left using Nat.strongRecOn with
  | ind left ih =>
  intro hl W hT
  have h25 : w * h ≤ 25 := Nat.mul_le_mul hw.2 hh.2
  have hl25 := set25 h25 hl
  have bx0 := Box.new W 32 #[.int .i64 (w : Int), .int .i64 (h : Int)]
  by_cases h0 : left = 0
  · subst h0
    rw [cov_zero]
    go_enter Tryd.func21, Tryd.ntmps21
    go_wp2_with fail
    go_ret
    exact ⟨rfl, (Below.refl _ _).alloc (Nat.le_refl _) _⟩
  · have HF := hide (fun (w5 : World) (h5 : Tab w5) => firstPieces_c w h left w5 h5 hw hh h0 hl)
    have HS := hide (cov_step (w := w) h0 hl h25)
    have HLs := hide (pieces_less (w := w) h0 hl h25)
    have HLt := hide (pieces_lt (w := w) (h := h) rfl hw.1 h0 hl h25)
    have hP2 := pieces_len w (w * h) left
    generalize pieces w (w * h) left = P at *
    have HBd := hide (fun k => sumTo_le (fun p => covN w (w * h) (dif left p)) P k)
    have HSm := hide (fun k hk => sumTo_succ (fun p => covN w (w * h) (dif left p)) P k hk)
    have HSa := hide (sumTo_all (fun p => covN w (w * h) (dif left p)) P)
    have hcb := cov_bd w (w * h) left h25
    rw [HS.out] at hcb ⊢
    have HI := hide (fun (p : Nat) (hp : p ∈ P) (w5 : World) (h5 : Tab w5) => ih (dif left p) (HLs.out p hp) (dif_lt p hl) w5 h5)
    have HTb := hide hT
    have hz0 : ((left : Int) == 0) = false := by rw [beq_eq_false_iff_ne]; omega
    clear hT ih HS HLs
    go_enter Tryd.func21, Tryd.ntmps21
    go_wp2_with fail
    refine (HF.out _ (HTb.out.below ((Below.refl _ _).alloc (Nat.le_refl _) _))).mono ?_
    rintro e w1 ⟨v1, rfl, own1, b1⟩
    have bx1 := bx0.then b1
    have b1 : Below W.heap.size W w1 := below_then ((Below.refl _ _).alloc (Nat.le_refl _) _) (by simp) b1
    obtain ⟨A1, c1, rfl, _, _, r1, _⟩ := own_row own1
    clear own1
    go_wp2_with fail
    go_loopw [5, 14] (fun a i wr => ∃ (k : Nat), k ≤ P.length ∧ i = .int .i64 k ∧ a = .int .i64 ((sumTo (fun p => covN w (w * h) (dif left p)) P k : Nat) : Int) ∧
      Below W.heap.size W wr ∧ Box wr W.heap.size 32 #[.int .i64 (w : Int), .int .i64 (h : Int)] ∧ Row wr A1 (ints (natI P))) (fun _ i _ => P.length - (intOf i).toNat)
    case atStart => exact ⟨0, Nat.zero_le _, rfl, rfl, b1, bx1, r1⟩
    case round =>
      obtain ⟨k, hk, rfl, rfl, hb, bx, hr⟩ := hrel
      obtain ⟨wo, rfl⟩ : ∃ wo : World, wo = wr := ⟨_, rfl⟩
      have z := hb.size
      have c0 := bx.cell 0
      have c1 := bx.cell 1
      by_cases hlt : k < P.length
      · obtain ⟨ad, rfl, hck⟩ := hr.int (k := k) (by rw [natI_len]; exact hlt)
        rw [natI_at] at hck
        have hmem : P[k]?.getD 0 ∈ P := by rw [List.getElem?_eq_getElem hlt, Option.getD_some]; exact List.getElem_mem _
        have hI := hide (HI.out _ hmem)
        have hsm := HSm.out k hlt
        have hb1 := HBd.out (k + 1)
        have hpl := set25 h25 (HLt.out _ hmem)
        have HB := hide (HTb.out.below hb)
        rw [hsm] at hb1
        have hsm := hide hsm
        generalize P[k]?.getD 0 = p at *
        have ed := i64_difN left p (by omega) (by omega)
        have dl : dif left p < 33554432 := Nat.lt_of_le_of_lt (dif_le _ _) hl25
        generalize dif left p = q at *
        generalize covN w (w * h) q = cq at *
        generalize sumTo (fun p => covN w (w * h) (dif left p)) P k = S at *
        have k0 : (0 : Int) ≤ (k : Int) := by omega
        have k1 : (k : Int) < (P.length : Int) := by omega
        have es : IntKind.i64.wrap ((S : Int) + (cq : Int)) = ((S + cq : Nat) : Int) := (IntWalk.i64_in _ (by omega)).trans (by omega)
        clear hmem hb1
        go_wp2_with fail
        refine (hI.out _ HB.out).mono ?_
        rintro e w2 ⟨rfl, b2⟩
        go_wp2_with fail
        exact ⟨⟨k + 1, hlt, by go_num, by rw [hsm.out, Int.natCast_add], below_then hb z b2, bx.then b2, hr.below b2⟩, by simp [intOf]; omega⟩
      · obtain rfl : k = P.length := by omega
        rw [HSa.out]
        go_wp2_with fail
        go_ret
        exact ⟨rfl, hb⟩


theorem find_at {f : Nat → Nat} {P : List Nat} {k : Nat} (hk : k < P.length) (hz : ∀ j, j < k → f (P[j]?.getD 0) = 0) (hp : 0 < f (P[k]?.getD 0)) : (P.find? fun p => decide (0 < f p)) = some (P[k]?.getD 0) := by
  rw [List.find?_eq_some_iff_getElem]
  refine ⟨by simpa using hp, k, hk, by rw [List.getElem?_eq_getElem hk]; rfl, fun j hj => ?_⟩
  have := hz j hj
  rw [List.getElem?_eq_getElem (by omega)] at this
  simp only [Option.getD_some] at this
  simp [this]
theorem find_no {f : Nat → Nat} {P : List Nat} (hz : ∀ j, j < P.length → f (P[j]?.getD 0) = 0) : (P.find? fun p => decide (0 < f p)) = none := by
  rw [List.find?_eq_none]
  intro x hx
  obtain ⟨i, hi, rfl⟩ := List.getElem_of_mem hx
  have := hz i hi
  rw [List.getElem?_eq_getElem hi] at this
  simp only [Option.getD_some] at this
  simp [this]
def pieceV : Option Nat → Value
  | none => .tuple #[.int .i64 0, .bool false]
  | some p => .tuple #[.int .i64 (p : Int), .bool true]

end Go.Proofs.YtnikgnicjbcbmabDoor
