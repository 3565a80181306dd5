
/-
  The desk of the program: RunDesk.
-/
import Derived.Test.YtmfdlijkpdgimaaGreatDoorPDeskR
namespace Go.Proofs.YtmfdlijkpdgimaaGreatDoor
open Go.RowKit
set_option linter.unusedVariables false

theorem builderAt_grown {T e : TypeId} {B b g : Nat} {p : Value} {bs : List Value} {w w' : World} (h : Lib.BuilderAt T e B b p bs w) (hg : w.grownBy w' (some g)) (hgB : g < B) : Lib.BuilderAt T e B b p bs w' := by
  obtain ⟨hB, v, hb, hown, hne⟩ := h
  refine ⟨hB, v, ?_, hown.kept hg ?_, hne⟩
  · have hlt : b < w.heap.size := (Array.getElem?_eq_some_iff.1 hb).1
    rw [hg.block b hlt (fun e => by injection e with e; omega)]
    exact hb
  · cases hv : v.ownBlock with
    | none => exact .inl rfl
    | some k => exact .inr (fun e => by
        injection e with e
        have := (hown.lt k hv).1
        omega)
theorem builder_grown {T e : TypeId} {B b g : Nat} {bs : List Value} {w w' : World} (h : Lib.IsBuilder T e B b bs w) (hg : w.grownBy w' (some g)) (hgB : g < B) : Lib.IsBuilder T e B b bs w' :=
  h.elim (fun h => .inl (builderAt_grown h hg hgB)) (fun h => .inr (builderAt_grown h hg hgB))
theorem builder_new (w : World) (B : Nat) (hB : B ≤ w.heap.size) : Lib.IsBuilder 43 5 B w.heap.size [] (w.alloc (.cells #[.pointer none, .slice none 0 0] 43)) :=
  .inl ⟨hB, .slice none 0 0, heap_alloc_new w _, World.ownsRow_nil _ _ _ _, by simp [Value.ownBlock]⟩
theorem lit_4095 (w h x : Int) (hx : deskD.lit w h x = true) : 0 ≤ x ∧ x ≤ 4095 := by
  have hL : LitS w h x := of_decide_eq_true hx
  obtain ⟨⟨_, h12⟩, h0, h1⟩ := hL
  have hp : 2 ^ (w * h).toNat ≤ 2 ^ 12 := Nat.pow_le_pow_right (by decide) (by omega)
  have : (2 : Nat) ^ 12 = 4096 := by decide
  omega
theorem peg_4095 (w h x : Int) (hx : deskD.peg w h x = true) : 0 ≤ x ∧ x ≤ 4095 := lit_4095 w h x hx
/-- The board behind i lines. -/
abbrev brdTo (lines : List ByteArray) (i : Nat) : Int × Int := (deskTo deskD lines i).2
theorem reply_to (g : Nat) (lines : List ByteArray) (i : Nat) (hl : (lines[i]?.getD ⟨#[]⟩).size ≤ 1073741824) (w : World) (hT : TabZ w) (h10 : 10 ≤ g) (hg : Box w g 40 #[.int .i64 (brdTo lines i).1, .int .i64 (brdTo lines i).2]) :
    ∃ a : ByteArray, a.size ≤ 2000 ∧ (deskTo deskD lines (i + 1)).1 = (deskTo deskD lines i).1 ++ a ++ ⟨#[10]⟩ ∧ Calls Tryz.prog 19 #[.pointer (some ⟨g, 0, none⟩), .string (lines[i]?.getD ⟨#[]⟩)] w fun e w' =>
      e = .returned (.string a) ∧ w.grownBy w' (some g) ∧ Box w' g 40 #[.int .i64 (brdTo lines (i + 1)).1, .int .i64 (brdTo lines (i + 1)).2] := by
  have hB := desk_brd deskD lines i
  have hc := reply_c g _ _ hB (lines[i]?.getD ⟨#[]⟩) hl w hT h10 hg
  rw [← answer_say deskD lit_4095 peg_4095 _ _ hB] at hc
  exact ⟨_, answer_size deskD_s _ _ _ _, rfl, hc⟩
theorem write_to (B b : Nat) (X a : ByteArray) (w : World) (h : Lib.IsBuilder 43 5 B b (Lib.byteCells X.data.toList) w) (hX : X.size ≤ 100000) (ha : a.size ≤ 2000) (hBw : B ≤ w.heap.size) :
    Calls Tryz.prog 18 #[.pointer (some ⟨b, 0, none⟩), .string (a ++ ⟨#[10]⟩)] w fun e w' => (∃ n : Int, e = .returned (.tuple #[.int .i64 n, .nilIface])) ∧ Lib.IsBuilder 43 5 B b (Lib.byteCells (X ++ a ++ ⟨#[10]⟩).data.toList) w' ∧ Below B w w' := by
  have h1 : (ByteArray.mk #[10]).size = 1 := rfl
  have hc := write_c B b (Lib.byteCells X.data.toList) (a ++ ⟨#[10]⟩) w h (by
    rw [Lib.byteCells_length, size_list, ByteArray.size_append]
    omega) hBw
  refine hc.mono fun e w' ⟨he, hb, hw⟩ => ⟨⟨_, he⟩, .inr ?_, hw⟩
  have e1 : Lib.byteCells X.data.toList ++ Lib.strCells (a ++ ⟨#[10]⟩) = Lib.byteCells (X ++ a ++ ⟨#[10]⟩).data.toList := by
    rw [Lib.strCells_eq, ← Lib.byteCells_append]
    congr 1
    simp [ByteArray.data_append]
  rwa [e1] at hb
set_option maxHeartbeats 4000000 in
/-- RUNDESK OF THE PROGRAM. -/
theorem implRunDesk_c (lines : List ByteArray) (A : Option Addr) (n c : Nat) (w5 : World) (hT : TabZ w5) (hn : lines.length = n) (hl : ∀ i, i < n → (lines[i]?.getD ⟨#[]⟩).size ≤ 1073741824) (hr : Row w5 A (strsV lines)) :
    Calls Tryz.prog 6 #[.slice A n c] w5 (Plain (.string (deskB deskD lines)) w5) := by
  have h10 : 10 ≤ w5.heap.size := cell_lt (hT.bits 0 (by decide))
  by_cases h20 : 20 < n
  · have hD : deskB deskD lines = ⟨#[]⟩ := if_pos (by omega)
    have hi : (20 : Int) < (n : Int) := by omega
    rw [hD]
    clear hT h10 hl hr hn hD
    go_enter Tryz.func6, Tryz.ntmps6
    go_wp2_with fail
    go_ret
    exact ⟨rfl, Below.refl _ _⟩
  · have hD : Hid (deskB deskD lines = (deskTo deskD lines n).1) := hide <| by
      unfold deskB
      rw [if_neg (by omega), hn]
    have hi : ¬ (20 : Int) < (n : Int) := by omega
    have HR := hide hr
    have HSz := hide (fun i => desk_size deskD_s lines i)
    have HRe := hide (fun (i : Nat) (hi : i < n) w (hb : Below w5.heap.size w5 w) hg => reply_to w5.heap.size lines i (hl i hi) w (hT.below hb) h10 hg)
    have HL := hide hn
    obtain ⟨w, rfl⟩ : ∃ w, w = w5 := ⟨_, rfl⟩
    have bx0 := (Box.new w 40 #[.int .i64 3, .int .i64 3]).alloc (.cells #[.pointer none, .slice none 0 0] 43)
    have bd0 := builder_new (w.alloc (.cells #[.int .i64 3, .int .i64 3] 40)) (w.heap.size + 1) (by simp)
    have hb0 := ((Below.refl w.heap.size w).alloc (Nat.le_refl _) (.cells #[.int .i64 3, .int .i64 3] 40)).alloc (by simp) (.cells #[.pointer none, .slice none 0 0] 43)
    have S0 : (w.alloc (.cells #[.int .i64 3, .int .i64 3] 40)).heap.size = w.heap.size + 1 := by simp
    rw [S0] at bd0
    have HX0 := hide bx0
    have HD0 := hide bd0
    have HB0 := hide hb0
    clear hT h10 hl hr hn h20 bx0 bd0 hb0
    go_enter Tryz.func6, Tryz.ntmps6
    go_wp2_with fail
    go_loopw [13] (fun iv wr => ∃ i : Nat, i ≤ n ∧ iv = .int .i64 (i : Int) ∧ Below w.heap.size w wr ∧ w.heap.size + 2 ≤ wr.heap.size ∧ Box wr w.heap.size 40 #[.int .i64 (brdTo lines i).1, .int .i64 (brdTo lines i).2] ∧
      Lib.IsBuilder 43 5 (w.heap.size + 1) (w.heap.size + 1) (Lib.byteCells (deskTo deskD lines i).1.data.toList) wr) (fun iv _ => n - (intOf iv).toNat)
    case atStart => exact ⟨0, Nat.zero_le _, rfl, HB0.out, by simp, HX0.out, HD0.out⟩
    case round =>
      obtain ⟨i, hin, rfl, hb, hsz, hbx, hbd⟩ := hrel
      obtain ⟨wo, rfl⟩ : ∃ wo : World, wo = wr := ⟨_, rfl⟩
      clear HX0 HD0 HB0
      by_cases hlt : i < n
      · obtain ⟨ad, rfl, hca⟩ := str_row (HR.out.below hb) (k := i) (by rw [HL.out]; exact hlt)
        obtain ⟨a, ha, he, hc⟩ := HRe.out i hlt wo hb hbx
        have hX := HSz.out i
        have HC := hide hc
        have HW := hide (fun wq h5 h6 => write_to (w.heap.size + 1) (w.heap.size + 1) (deskTo deskD lines i).1 a wq h5 (by omega) ha h6)
        have HE := hide he
        have HB := hide hb
        have HD := hide hbd
        have h10b : (ByteArray.mk #[10]).size = 1 := rfl
        have hcat : ¬ (9223372036854775807 < a.size + 1) := by omega
        clear HRe HSz hc he hb hbx hbd hX
        generalize lines[i]?.getD ⟨#[]⟩ = line at *
        go_wp2_with fail
        refine HC.out.mono ?_
        rintro e w1 ⟨rfl, g1, hb1⟩
        have HB1 := hide (HB.out.grown g1 HB.out.size (fun k hk => by injection hk with hk; omega))
        have HD1 := hide (builder_grown HD.out g1 (Nat.lt_succ_self _))
        have HX1 := hide hb1
        have s1 := g1.size
        clear HC HB HD g1 hb1
        go_wp2_with fail
        refine (HW.out _ HD1.out (by omega)).mono ?_
        rintro e w2 ⟨⟨m, rfl⟩, hd2, b2⟩
        have HB2 := hide (HB1.out.trans (b2.mono (Nat.le_succ _)))
        have HX2 := hide (HX1.out.below b2 (Nat.lt_succ_self _))
        have s2 := b2.size
        have HD2 := hide hd2
        clear HW HD1 hd2 b2
        go_wp2_with fail
        exact ⟨⟨i + 1, hlt, by go_num, HB2.out, by omega, HX2.out, by rw [HE.out]; exact HD2.out⟩, by simp [intOf]; omega⟩
      · obtain rfl : i = n := by omega
        have HC := hide (Tryz.Builder_String_any (w.heap.size + 1) (w.heap.size + 1) (deskTo deskD lines i).1.data.toList wo hbd (by omega))
        have HB := hide hb
        clear HRe HSz hb hbx hbd
        go_wp2_with fail
        refine HC.out.mono ?_
        rintro e w1 ⟨rfl, b1⟩
        have HB1 := hide (HB.out.trans (b1.mono (Nat.le_succ _)))
        clear b1
        go_wp2_with fail
        go_ret
        exact ⟨by rw [hD.out]; rfl, HB1.out⟩
end Go.Proofs.YtmfdlijkpdgimaaGreatDoor
