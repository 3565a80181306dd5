
/-
  The drawn lines of a desk. Written by tools/gendrawr.py.
-/
import Derived.Test.YtmfdlijkpdgimaaGreatDoorDrawM
import Derived.Test.YtmfdlijkpdgimaaGreatDoorLawIA
namespace Go.Proofs.YtmfdlijkpdgimaaGreatDoor
open Go.RowKit
set_option linter.unusedVariables false

theorem one_newR (xs : List Int) (R B N : Nat) (w : World) (h : Reader w R B N) (hN : N ≤ 1000000) (h0 : 0 < xs.length) (h1 : xs.length ≤ 1000) :
    Calls Tryz.prog 13 #[.pointer (some ⟨R, 0, none⟩), .slice (some ⟨w.heap.size, 0, none⟩) xs.length xs.length] (w.alloc (.cells (ints xs).toArray 3)) (Drawn (· ∈ xs) R B (N + 1) w) :=
  (one_c _ _ xs R B N _ (h.grown_alloc _) (row_new w _ _ rfl) (fun ad e => by injection e with e; subst e; show w.heap.size ≠ R; have := h.lt; omega) hN h0 h1).mono fun e w' ⟨x, he, hm, rd, hg⟩ => ⟨x, he, hm, rd, (World.grownBy_alloc w _ _).trans hg⟩
/-- The lines that are drawn so far. -/
structure LinesAt (w wr : World) (R base N : Nat) (v : Value) (lines : List ByteArray) : Prop where
  rd : Reader wr R w.heap.size N
  own : wr.ownsRow base 9 1 v lines.length (strsV lines)
  below : Below w.heap.size w wr
  hR : w.heap.size ≤ R
  hb : R < base
  hw : base ≤ wr.heap.size
theorem LinesAt.draw {w wr w' : World} {R base N N' : Nat} {v : Value} {lines : List ByteArray} (h : LinesAt w wr R base N v lines) (rd : Reader w' R w.heap.size N') (hg : wr.grownBy w' (some R)) : LinesAt w w' R base N' v lines :=
  ⟨rd, own_aside h.own h.hb hg, h.below.grown hg h.below.size (fun k e => by injection e with e; have := h.hR; omega), h.hR, h.hb, Nat.le_trans h.hw hg.size⟩
theorem LinesAt.then {w wr w' : World} {R base N : Nat} {v : Value} {lines : List ByteArray} (h : LinesAt w wr R base N v lines) (hb : Below wr.heap.size wr w') : LinesAt w w' R base N v lines :=
  ⟨h.rd.then hb, own_below h.own hb, below_then h.below h.below.size hb, h.hR, h.hb, Nat.le_trans h.hw hb.size⟩
theorem LinesAt.mono {w wr : World} {R base N N' : Nat} {v : Value} {lines : List ByteArray} (h : LinesAt w wr R base N v lines) (hN : N ≤ N') : LinesAt w wr R base N' v lines := ⟨h.rd.mono hN, h.own, h.below, h.hR, h.hb, h.hw⟩
set_option maxHeartbeats 8000000 in
set_option maxRecDepth 100000 in
theorem drawRunDesk_c (A : Option Addr) (n c : Nat) (w : World) (h : Code w A n c) : Calls Tryz.prog 5 #[.slice A n c] w (DrawnLines w) := by
  have HC := hide (newReader_c A n c w h)
  clear h
  go_enter Tryz.func5, Tryz.ntmps5
  go_wp2_with fail
  refine HC.out.mono ?_
  rintro e w1 ⟨R, rfl, rd, hb⟩
  have hR : w.heap.size ≤ R := by obtain ⟨_, _, _, _, _, _, _, h, _⟩ := rd; exact h
  have hRl := rd.lt
  have oe := World.ownsRow_made (base := w1.heap.size) (e := 9) (size := 1) w1 #[] 0 (Nat.le_refl _) (by simp [maxLen]) rfl
  have LA : LinesAt w (w1.alloc (.cells #[] 9)) R w1.heap.size 0 _ [] := ⟨rd.grown_alloc _, oe, below_then hb hb.size ((Below.refl w1.heap.size w1).alloc (Nat.le_refl _) (.cells #[] 9)), hR, hRl, by simp⟩
  have hON : Hid (Calls Tryz.prog 13 #[.pointer (some ⟨R, 0, none⟩), .slice (some ⟨w1.heap.size + 1, 0, none⟩) 5 5] ((w1.alloc (.cells #[] 9)).alloc (.cells #[.int .i64 4, .int .i64 5, .int .i64 2, .int .i64 6, .int .i64 0] 3)) (Drawn (· ∈ [4, 5, 2, 6, 0]) R w.heap.size (0 + 1) (w1.alloc (.cells #[] 9)))) := hide (by
    have hz : w1.heap.size + 1 = (w1.alloc (.cells #[] 9)).heap.size := by simp
    rw [hz]
    exact one_newR [4, 5, 2, 6, 0] R _ 0 _ LA.rd (by omega) (by decide) (by decide))
  clear HC oe
  go_wp2_with fail
  refine hON.out.mono ?_
  rintro e w2 ⟨m, rfl, hm, rd2, hg2⟩
  have LA := LA.draw rd2 hg2
  have hm6 : 0 ≤ m ∧ m ≤ 6 := by simp only [List.mem_cons, List.not_mem_nil, or_false] at hm; omega
  obtain ⟨m, rfl⟩ := Int.eq_ofNat_of_zero_le hm6.1
  have HM : Hid (m ≤ 6) := hide (by omega)
  have LA0 := hide LA
  have HWB := hide hb
  clear hON hm hm6 rd2 hg2 LA hb rd
  go_wp2_with fail
  go_loopw [4, 5] (fun ov nv wr => ∃ (j : Nat) (lines : List ByteArray), nv = .int .i64 (j : Int) ∧ j + lines.length ≤ 6 ∧ (∀ i, i < lines.length → (lines[i]?.getD ⟨#[]⟩).size ≤ 1000) ∧ LinesAt w wr R w1.heap.size (1 + 20 * lines.length) ov lines) (fun _ nv _ => (intOf nv).toNat)
  case atStart => exact ⟨m, [], rfl, by have := HM.out; simpa using this, fun i hi => absurd hi (by simp), LA0.out⟩
  case round =>
    obtain ⟨j, lines, rfl, hj, hsz, LA⟩ := hrel
    obtain ⟨wo, rfl⟩ : ∃ wo : World, wo = wr := ⟨_, rfl⟩
    obtain ⟨AL, cL, rfl, _⟩ := own_row LA.own
    by_cases hj0 : j = 0
    · subst hj0
      have LAH := hide LA
      have HSZ := hide hsz
      clear LA hsz
      go_wp2_with fail
      go_ret
      exact ⟨_, lines, rfl, by omega, fun i hi => Nat.le_trans (HSZ.out i hi) (by decide), own_mono LAH.out.own HWB.out.size, LAH.out.below⟩
    · have jp : (0 : Int) < (j : Int) := by omega
      have jw : IntKind.i64.wrap ((j : Int) - 1) = (j : Int) - 1 := IntWalk.i64_in _ (by omega)
      have HSZ := hide hsz
      have hll : lines.length ≤ 6 := by omega
      obtain ⟨K, hK⟩ : ∃ K, 1 + 20 * lines.length = K := ⟨_, rfl⟩
      rw [hK] at LA
      have hK9 : K ≤ 200 := by omega
      clear hsz LA0
      have hOF := hide (of_new [⟨#[107, 105, 110, 103]⟩, ⟨#[107, 110, 105, 103, 104, 116]⟩, ⟨#[114, 111, 111, 107]⟩, ⟨#[98, 105, 115, 104, 111, 112]⟩, ⟨#[113, 117, 101, 101, 110]⟩, ⟨#[115, 116, 101, 112]⟩] R _ K _ LA.rd (by omega) (by decide) (by decide))
      go_wp2_with fail
      refine hOF.out.mono ?_
      rintro e w3 ⟨t, rfl, hm, rd3, hg3⟩
      have ht : t.size ≤ 6 := by
        simp only [List.mem_cons, List.not_mem_nil, or_false] at hm
        rcases hm with rfl | rfl | rfl | rfl | rfl | rfl <;> decide
      have LA := LA.draw rd3 hg3
      have t32 : (ByteArray.mk #[32]).size = 1 := rfl
      have h1 : t.size + (ByteArray.mk #[32]).size ≤ 9223372036854775807 := by omega
      clear hOF hm rd3 hg3
      have hP := hide (pick_c 12 R _ _ _ LA.rd (by omega) (by omega) (by omega))
      go_wp2_with fail
      refine hP.out.mono ?_
      rintro e w4 ⟨p, rfl, p1, _, rd4, hg4⟩
      obtain ⟨p0, p1⟩ := p1 (by omega)
      have LA := LA.draw rd4 hg4
      have hN := hide (fun w5 => number_c p w5 (by omega) (by omega))
      have hn1 := num_size p
      clear hP rd4 hg4
      go_wp2_with fail
      refine (hN.out _).mono ?_
      rintro e w5 ⟨rfl, b5⟩
      have LA := LA.then b5
      generalize numB p = pn at *
      have h2 : (t ++ ByteArray.mk #[32]).size + pn.size ≤ 9223372036854775807 := by rw [ByteArray.size_append]; omega
      have hs0 : (t ++ ByteArray.mk #[32] ++ pn).size ≤ 60 := by rw [ByteArray.size_append, ByteArray.size_append]; omega
      clear hN b5 p0 p1 hn1
      have hP := hide (pick_c 6 R _ _ _ LA.rd (by omega) (by omega) (by omega))
      go_wp2_with fail
      refine hP.out.mono ?_
      rintro e w6 ⟨x, rfl, x1, _, rd6, hg6⟩
      obtain ⟨x0, x1⟩ := x1 (by omega)
      have LA := LA.draw rd6 hg6
      clear hP rd6 hg6
      have hx : x = 0 ∨ x = 1 ∨ x = 2 ∨ x = 3 ∨ x = 4 ∨ x = 5 := by omega
      clear x0 x1
      rcases hx with rfl | rfl | rfl | rfl | rfl | rfl
      · have hP := hide (pick_c 5 R _ _ _ LA.rd (by omega) (by omega) (by omega))
        go_wp2_with fail
        refine hP.out.mono ?_
        rintro e w7 ⟨pa, rfl, a1, _, rdq, hgq⟩
        obtain ⟨a0, a1⟩ := a1 (by omega)
        have LA := LA.draw rdq hgq
        have aw : IntKind.i64.wrap (1 + pa) = 1 + pa := IntWalk.i64_in _ (by omega)
        have hN := hide (fun w5 => number_c (1 + pa) w5 (by omega) (by omega))
        have hn1 := num_size (1 + pa)
        clear hP rdq hgq
        go_wp2_with fail
        refine (hN.out _).mono ?_
        rintro e w8 ⟨rfl, bq⟩
        have LA := LA.then bq
        generalize numB (1 + pa) = pan at *
        clear hN bq a0 a1
        have hb1 : (ByteArray.mk #[98, 111, 97, 114, 100, 32]).size + pan.size ≤ 9223372036854775807 := by
          have : (ByteArray.mk #[98, 111, 97, 114, 100, 32]).size = 6 := rfl
          omega
        have hb2 : (ByteArray.mk #[98, 111, 97, 114, 100, 32] ++ pan).size + (ByteArray.mk #[32]).size ≤ 9223372036854775807 := by
          have : (ByteArray.mk #[98, 111, 97, 114, 100, 32]).size = 6 := rfl
          rw [ByteArray.size_append]
          omega
        have hn0 := hn1
        clear hn1
        have hP := hide (pick_c 4 R _ _ _ LA.rd (by omega) (by omega) (by omega))
        go_wp2_with fail
        refine hP.out.mono ?_
        rintro e w9 ⟨pb, rfl, a1, _, rdq, hgq⟩
        obtain ⟨a0, a1⟩ := a1 (by omega)
        have LA := LA.draw rdq hgq
        have aw : IntKind.i64.wrap (1 + pb) = 1 + pb := IntWalk.i64_in _ (by omega)
        have hN := hide (fun w5 => number_c (1 + pb) w5 (by omega) (by omega))
        have hn1 := num_size (1 + pb)
        clear hP rdq hgq
        go_wp2_with fail
        refine (hN.out _).mono ?_
        rintro e w10 ⟨rfl, bq⟩
        have LA := LA.then bq
        generalize numB (1 + pb) = pbn at *
        clear hN bq a0 a1
        have hb3 : (ByteArray.mk #[98, 111, 97, 114, 100, 32] ++ pan ++ ByteArray.mk #[32]).size + pbn.size ≤ 9223372036854775807 := by
          have : (ByteArray.mk #[98, 111, 97, 114, 100, 32]).size = 6 := rfl
          rw [ByteArray.size_append, ByteArray.size_append]
          omega
        have hs1 : (ByteArray.mk #[98, 111, 97, 114, 100, 32] ++ pan ++ ByteArray.mk #[32] ++ pbn).size ≤ 60 := by
          have : (ByteArray.mk #[98, 111, 97, 114, 100, 32]).size = 6 := rfl
          rw [ByteArray.size_append, ByteArray.size_append, ByteArray.size_append]
          omega
        have hP := hide (pick_c 8 R _ _ _ LA.rd (by omega) (by omega) (by omega))
        go_wp2_with fail
        refine hP.out.mono ?_
        rintro e wy ⟨y, rfl, y1, _, rdq, hgq⟩
        obtain ⟨y0, y1⟩ := y1 (by omega)
        have LA := LA.draw rdq hgq
        clear hP rdq hgq
        by_cases hy0 : y = 0
        · subst hy0
          have hOF := hide (of_new [⟨#[]⟩, ⟨#[104, 101, 108, 112]⟩, ⟨#[116, 105, 108, 101, 32, 49]⟩, ⟨#[98, 111, 97, 114, 100, 32, 51]⟩, ⟨#[98, 111, 97, 114, 100, 32, 54, 32, 49]⟩, ⟨#[107, 105, 110, 103]⟩, ⟨#[107, 105, 110, 103, 32, 50, 53]⟩, ⟨#[100, 97, 114, 107]⟩, ⟨#[112, 101, 103, 115, 32, 52, 48, 57, 54]⟩, ⟨#[102, 111, 108, 100, 32, 49]⟩] R _ _ _ LA.rd (by omega) (by decide) (by decide))
          go_wp2_with fail
          refine hOF.out.mono ?_
          rintro e wz ⟨u, rfl, hm, rdq, hgq⟩
          have hu : u.size ≤ 60 := by
            simp only [List.mem_cons, List.not_mem_nil, or_false] at hm
            rcases hm with rfl | rfl | rfl | rfl | rfl | rfl | rfl | rfl | rfl | rfl <;> decide
          have LA := LA.draw rdq hgq
          clear hOF hm rdq hgq
          have LA := LA.mono (show _ ≤ K + 20 by omega)
          have oe := LA.own.alloc (.cells #[.string (u)] 9)
          have bq := LA.below.alloc LA.below.size (.cells #[.string (u)] 9)
          have rq := LA.rd.grown_alloc (.cells #[.string (u)] 9)
          have hHB := HWB.out.size
          go_wp2_with (first
            | (at_builtin; refine put_own rfl (.tmp 68) (.tmp 70) rfl Tryz.underlying23 elem_str rfl oe rfl (m := 1) (news := [.string (u)]) rfl (row_new _ _ _ rfl) (by simp [Value.oneCell']) (by omega) (by omega) (by have := LA.hw; simp; omega) ?_
               intro v3 w3 own3 hg3 ho3))
          refine ⟨⟨j - 1, lines ++ [u], by congr 1; omega, by simp; omega, ?_, ?_⟩, by simp [intOf]; omega⟩
          · intro i hi
            by_cases hil : i < lines.length
            · rw [List.getElem?_append_left hil]
              exact HSZ.out i hil
            · rw [List.getElem?_append_right (by omega), show i - lines.length = 0 by simp at hi; omega]
              simp only [List.getElem?_cons_zero, Option.getD_some]
              omega
          · exact ⟨(rq.grown hg3 (fun k e => by have := (oe.lt k e).1; have := LA.hb; omega)).mono (by simp; omega), by simpa [strsV] using own3, below_grown bq bq.size oe hHB hg3, LA.hR, LA.hb, Nat.le_trans LA.hw (Nat.le_trans (by simp) hg3.size)⟩
        · by_cases hy1 : y = 1
          · subst hy1
            have hMU := hide (mutate_c (ByteArray.mk #[98, 111, 97, 114, 100, 32] ++ pan ++ ByteArray.mk #[32] ++ pbn) R _ _ _ LA.rd (by omega) (by omega))
            go_wp2_with fail
            refine hMU.out.mono ?_
            rintro e wz ⟨u, rfl, hu, rdq, hgq⟩
            have LA := LA.draw rdq hgq
            clear hMU rdq hgq
            have LA := LA.mono (show _ ≤ K + 20 by omega)
            have oe := LA.own.alloc (.cells #[.string (u)] 9)
            have bq := LA.below.alloc LA.below.size (.cells #[.string (u)] 9)
            have rq := LA.rd.grown_alloc (.cells #[.string (u)] 9)
            have hHB := HWB.out.size
            go_wp2_with (first
              | (at_builtin; refine put_own rfl (.tmp 68) (.tmp 70) rfl Tryz.underlying23 elem_str rfl oe rfl (m := 1) (news := [.string (u)]) rfl (row_new _ _ _ rfl) (by simp [Value.oneCell']) (by omega) (by omega) (by have := LA.hw; simp; omega) ?_
                 intro v3 w3 own3 hg3 ho3))
            refine ⟨⟨j - 1, lines ++ [u], by congr 1; omega, by simp; omega, ?_, ?_⟩, by simp [intOf]; omega⟩
            · intro i hi
              by_cases hil : i < lines.length
              · rw [List.getElem?_append_left hil]
                exact HSZ.out i hil
              · rw [List.getElem?_append_right (by omega), show i - lines.length = 0 by simp at hi; omega]
                simp only [List.getElem?_cons_zero, Option.getD_some]
                omega
            · exact ⟨(rq.grown hg3 (fun k e => by have := (oe.lt k e).1; have := LA.hb; omega)).mono (by simp; omega), by simpa [strsV] using own3, below_grown bq bq.size oe hHB hg3, LA.hR, LA.hb, Nat.le_trans LA.hw (Nat.le_trans (by simp) hg3.size)⟩
          · have f0 : (y == 0) = false := by rw [beq_eq_false_iff_ne]; exact hy0
            have f1 : (y == 1) = false := by rw [beq_eq_false_iff_ne]; exact hy1
            have LA := LA.mono (show _ ≤ K + 20 by omega)
            have oe := LA.own.alloc (.cells #[.string (ByteArray.mk #[98, 111, 97, 114, 100, 32] ++ pan ++ ByteArray.mk #[32] ++ pbn)] 9)
            have bq := LA.below.alloc LA.below.size (.cells #[.string (ByteArray.mk #[98, 111, 97, 114, 100, 32] ++ pan ++ ByteArray.mk #[32] ++ pbn)] 9)
            have rq := LA.rd.grown_alloc (.cells #[.string (ByteArray.mk #[98, 111, 97, 114, 100, 32] ++ pan ++ ByteArray.mk #[32] ++ pbn)] 9)
            have hHB := HWB.out.size
            go_wp2_with (first
              | (at_builtin; refine put_own rfl (.tmp 68) (.tmp 70) rfl Tryz.underlying23 elem_str rfl oe rfl (m := 1) (news := [.string (ByteArray.mk #[98, 111, 97, 114, 100, 32] ++ pan ++ ByteArray.mk #[32] ++ pbn)]) rfl (row_new _ _ _ rfl) (by simp [Value.oneCell']) (by omega) (by omega) (by have := LA.hw; simp; omega) ?_
                 intro v3 w3 own3 hg3 ho3))
            refine ⟨⟨j - 1, lines ++ [ByteArray.mk #[98, 111, 97, 114, 100, 32] ++ pan ++ ByteArray.mk #[32] ++ pbn], by congr 1; omega, by simp; omega, ?_, ?_⟩, by simp [intOf]; omega⟩
            · intro i hi
              by_cases hil : i < lines.length
              · rw [List.getElem?_append_left hil]
                exact HSZ.out i hil
              · rw [List.getElem?_append_right (by omega), show i - lines.length = 0 by simp at hi; omega]
                simp only [List.getElem?_cons_zero, Option.getD_some]
                omega
            · exact ⟨(rq.grown hg3 (fun k e => by have := (oe.lt k e).1; have := LA.hb; omega)).mono (by simp; omega), by simpa [strsV] using own3, below_grown bq bq.size oe hHB hg3, LA.hR, LA.hb, Nat.le_trans LA.hw (Nat.le_trans (by simp) hg3.size)⟩
      · have hs1 : (ByteArray.mk #[116, 105, 108, 101]).size ≤ 60 := by decide
        have hP := hide (pick_c 8 R _ _ _ LA.rd (by omega) (by omega) (by omega))
        go_wp2_with fail
        refine hP.out.mono ?_
        rintro e wy ⟨y, rfl, y1, _, rdq, hgq⟩
        obtain ⟨y0, y1⟩ := y1 (by omega)
        have LA := LA.draw rdq hgq
        clear hP rdq hgq
        by_cases hy0 : y = 0
        · subst hy0
          have hOF := hide (of_new [⟨#[]⟩, ⟨#[104, 101, 108, 112]⟩, ⟨#[116, 105, 108, 101, 32, 49]⟩, ⟨#[98, 111, 97, 114, 100, 32, 51]⟩, ⟨#[98, 111, 97, 114, 100, 32, 54, 32, 49]⟩, ⟨#[107, 105, 110, 103]⟩, ⟨#[107, 105, 110, 103, 32, 50, 53]⟩, ⟨#[100, 97, 114, 107]⟩, ⟨#[112, 101, 103, 115, 32, 52, 48, 57, 54]⟩, ⟨#[102, 111, 108, 100, 32, 49]⟩] R _ _ _ LA.rd (by omega) (by decide) (by decide))
          go_wp2_with fail
          refine hOF.out.mono ?_
          rintro e wz ⟨u, rfl, hm, rdq, hgq⟩
          have hu : u.size ≤ 60 := by
            simp only [List.mem_cons, List.not_mem_nil, or_false] at hm
            rcases hm with rfl | rfl | rfl | rfl | rfl | rfl | rfl | rfl | rfl | rfl <;> decide
          have LA := LA.draw rdq hgq
          clear hOF hm rdq hgq
          have LA := LA.mono (show _ ≤ K + 20 by omega)
          have oe := LA.own.alloc (.cells #[.string (u)] 9)
          have bq := LA.below.alloc LA.below.size (.cells #[.string (u)] 9)
          have rq := LA.rd.grown_alloc (.cells #[.string (u)] 9)
          have hHB := HWB.out.size
          go_wp2_with (first
            | (at_builtin; refine put_own rfl (.tmp 68) (.tmp 70) rfl Tryz.underlying23 elem_str rfl oe rfl (m := 1) (news := [.string (u)]) rfl (row_new _ _ _ rfl) (by simp [Value.oneCell']) (by omega) (by omega) (by have := LA.hw; simp; omega) ?_
               intro v3 w3 own3 hg3 ho3))
          refine ⟨⟨j - 1, lines ++ [u], by congr 1; omega, by simp; omega, ?_, ?_⟩, by simp [intOf]; omega⟩
          · intro i hi
            by_cases hil : i < lines.length
            · rw [List.getElem?_append_left hil]
              exact HSZ.out i hil
            · rw [List.getElem?_append_right (by omega), show i - lines.length = 0 by simp at hi; omega]
              simp only [List.getElem?_cons_zero, Option.getD_some]
              omega
          · exact ⟨(rq.grown hg3 (fun k e => by have := (oe.lt k e).1; have := LA.hb; omega)).mono (by simp; omega), by simpa [strsV] using own3, below_grown bq bq.size oe hHB hg3, LA.hR, LA.hb, Nat.le_trans LA.hw (Nat.le_trans (by simp) hg3.size)⟩
        · by_cases hy1 : y = 1
          · subst hy1
            have hMU := hide (mutate_c (ByteArray.mk #[116, 105, 108, 101]) R _ _ _ LA.rd (by omega) (by omega))
            go_wp2_with fail
            refine hMU.out.mono ?_
            rintro e wz ⟨u, rfl, hu, rdq, hgq⟩
            have LA := LA.draw rdq hgq
            clear hMU rdq hgq
            have LA := LA.mono (show _ ≤ K + 20 by omega)
            have oe := LA.own.alloc (.cells #[.string (u)] 9)
            have bq := LA.below.alloc LA.below.size (.cells #[.string (u)] 9)
            have rq := LA.rd.grown_alloc (.cells #[.string (u)] 9)
            have hHB := HWB.out.size
            go_wp2_with (first
              | (at_builtin; refine put_own rfl (.tmp 68) (.tmp 70) rfl Tryz.underlying23 elem_str rfl oe rfl (m := 1) (news := [.string (u)]) rfl (row_new _ _ _ rfl) (by simp [Value.oneCell']) (by omega) (by omega) (by have := LA.hw; simp; omega) ?_
                 intro v3 w3 own3 hg3 ho3))
            refine ⟨⟨j - 1, lines ++ [u], by congr 1; omega, by simp; omega, ?_, ?_⟩, by simp [intOf]; omega⟩
            · intro i hi
              by_cases hil : i < lines.length
              · rw [List.getElem?_append_left hil]
                exact HSZ.out i hil
              · rw [List.getElem?_append_right (by omega), show i - lines.length = 0 by simp at hi; omega]
                simp only [List.getElem?_cons_zero, Option.getD_some]
                omega
            · exact ⟨(rq.grown hg3 (fun k e => by have := (oe.lt k e).1; have := LA.hb; omega)).mono (by simp; omega), by simpa [strsV] using own3, below_grown bq bq.size oe hHB hg3, LA.hR, LA.hb, Nat.le_trans LA.hw (Nat.le_trans (by simp) hg3.size)⟩
          · have f0 : (y == 0) = false := by rw [beq_eq_false_iff_ne]; exact hy0
            have f1 : (y == 1) = false := by rw [beq_eq_false_iff_ne]; exact hy1
            have LA := LA.mono (show _ ≤ K + 20 by omega)
            have oe := LA.own.alloc (.cells #[.string (ByteArray.mk #[116, 105, 108, 101])] 9)
            have bq := LA.below.alloc LA.below.size (.cells #[.string (ByteArray.mk #[116, 105, 108, 101])] 9)
            have rq := LA.rd.grown_alloc (.cells #[.string (ByteArray.mk #[116, 105, 108, 101])] 9)
            have hHB := HWB.out.size
            go_wp2_with (first
              | (at_builtin; refine put_own rfl (.tmp 68) (.tmp 70) rfl Tryz.underlying23 elem_str rfl oe rfl (m := 1) (news := [.string (ByteArray.mk #[116, 105, 108, 101])]) rfl (row_new _ _ _ rfl) (by simp [Value.oneCell']) (by omega) (by omega) (by have := LA.hw; simp; omega) ?_
                 intro v3 w3 own3 hg3 ho3))
            refine ⟨⟨j - 1, lines ++ [ByteArray.mk #[116, 105, 108, 101]], by congr 1; omega, by simp; omega, ?_, ?_⟩, by simp [intOf]; omega⟩
            · intro i hi
              by_cases hil : i < lines.length
              · rw [List.getElem?_append_left hil]
                exact HSZ.out i hil
              · rw [List.getElem?_append_right (by omega), show i - lines.length = 0 by simp at hi; omega]
                simp only [List.getElem?_cons_zero, Option.getD_some]
                omega
            · exact ⟨(rq.grown hg3 (fun k e => by have := (oe.lt k e).1; have := LA.hb; omega)).mono (by simp; omega), by simpa [strsV] using own3, below_grown bq bq.size oe hHB hg3, LA.hR, LA.hb, Nat.le_trans LA.hw (Nat.le_trans (by simp) hg3.size)⟩
      · have hP := hide (pick_c 250 R _ _ _ LA.rd (by omega) (by omega) (by omega))
        go_wp2_with fail
        refine hP.out.mono ?_
        rintro e w7 ⟨pa, rfl, a1, _, rdq, hgq⟩
        obtain ⟨a0, a1⟩ := a1 (by omega)
        have LA := LA.draw rdq hgq
        have hN := hide (fun w5 => number_c (pa) w5 (by omega) (by omega))
        have hn1 := num_size (pa)
        clear hP rdq hgq
        go_wp2_with fail
        refine (hN.out _).mono ?_
        rintro e w8 ⟨rfl, bq⟩
        have LA := LA.then bq
        generalize numB (pa) = pan at *
        clear hN bq a0 a1
        have hb1 : (ByteArray.mk #[100, 97, 114, 107, 32]).size + pan.size ≤ 9223372036854775807 := by
          have : (ByteArray.mk #[100, 97, 114, 107, 32]).size = 5 := rfl
          omega
        have hs1 : (ByteArray.mk #[100, 97, 114, 107, 32] ++ pan).size ≤ 60 := by
          have : (ByteArray.mk #[100, 97, 114, 107, 32]).size = 5 := rfl
          rw [ByteArray.size_append]
          omega
        have hP := hide (pick_c 8 R _ _ _ LA.rd (by omega) (by omega) (by omega))
        go_wp2_with fail
        refine hP.out.mono ?_
        rintro e wy ⟨y, rfl, y1, _, rdq, hgq⟩
        obtain ⟨y0, y1⟩ := y1 (by omega)
        have LA := LA.draw rdq hgq
        clear hP rdq hgq
        by_cases hy0 : y = 0
        · subst hy0
          have hOF := hide (of_new [⟨#[]⟩, ⟨#[104, 101, 108, 112]⟩, ⟨#[116, 105, 108, 101, 32, 49]⟩, ⟨#[98, 111, 97, 114, 100, 32, 51]⟩, ⟨#[98, 111, 97, 114, 100, 32, 54, 32, 49]⟩, ⟨#[107, 105, 110, 103]⟩, ⟨#[107, 105, 110, 103, 32, 50, 53]⟩, ⟨#[100, 97, 114, 107]⟩, ⟨#[112, 101, 103, 115, 32, 52, 48, 57, 54]⟩, ⟨#[102, 111, 108, 100, 32, 49]⟩] R _ _ _ LA.rd (by omega) (by decide) (by decide))
          go_wp2_with fail
          refine hOF.out.mono ?_
          rintro e wz ⟨u, rfl, hm, rdq, hgq⟩
          have hu : u.size ≤ 60 := by
            simp only [List.mem_cons, List.not_mem_nil, or_false] at hm
            rcases hm with rfl | rfl | rfl | rfl | rfl | rfl | rfl | rfl | rfl | rfl <;> decide
          have LA := LA.draw rdq hgq
          clear hOF hm rdq hgq
          have LA := LA.mono (show _ ≤ K + 20 by omega)
          have oe := LA.own.alloc (.cells #[.string (u)] 9)
          have bq := LA.below.alloc LA.below.size (.cells #[.string (u)] 9)
          have rq := LA.rd.grown_alloc (.cells #[.string (u)] 9)
          have hHB := HWB.out.size
          go_wp2_with (first
            | (at_builtin; refine put_own rfl (.tmp 68) (.tmp 70) rfl Tryz.underlying23 elem_str rfl oe rfl (m := 1) (news := [.string (u)]) rfl (row_new _ _ _ rfl) (by simp [Value.oneCell']) (by omega) (by omega) (by have := LA.hw; simp; omega) ?_
               intro v3 w3 own3 hg3 ho3))
          refine ⟨⟨j - 1, lines ++ [u], by congr 1; omega, by simp; omega, ?_, ?_⟩, by simp [intOf]; omega⟩
          · intro i hi
            by_cases hil : i < lines.length
            · rw [List.getElem?_append_left hil]
              exact HSZ.out i hil
            · rw [List.getElem?_append_right (by omega), show i - lines.length = 0 by simp at hi; omega]
              simp only [List.getElem?_cons_zero, Option.getD_some]
              omega
          · exact ⟨(rq.grown hg3 (fun k e => by have := (oe.lt k e).1; have := LA.hb; omega)).mono (by simp; omega), by simpa [strsV] using own3, below_grown bq bq.size oe hHB hg3, LA.hR, LA.hb, Nat.le_trans LA.hw (Nat.le_trans (by simp) hg3.size)⟩
        · by_cases hy1 : y = 1
          · subst hy1
            have hMU := hide (mutate_c (ByteArray.mk #[100, 97, 114, 107, 32] ++ pan) R _ _ _ LA.rd (by omega) (by omega))
            go_wp2_with fail
            refine hMU.out.mono ?_
            rintro e wz ⟨u, rfl, hu, rdq, hgq⟩
            have LA := LA.draw rdq hgq
            clear hMU rdq hgq
            have LA := LA.mono (show _ ≤ K + 20 by omega)
            have oe := LA.own.alloc (.cells #[.string (u)] 9)
            have bq := LA.below.alloc LA.below.size (.cells #[.string (u)] 9)
            have rq := LA.rd.grown_alloc (.cells #[.string (u)] 9)
            have hHB := HWB.out.size
            go_wp2_with (first
              | (at_builtin; refine put_own rfl (.tmp 68) (.tmp 70) rfl Tryz.underlying23 elem_str rfl oe rfl (m := 1) (news := [.string (u)]) rfl (row_new _ _ _ rfl) (by simp [Value.oneCell']) (by omega) (by omega) (by have := LA.hw; simp; omega) ?_
                 intro v3 w3 own3 hg3 ho3))
            refine ⟨⟨j - 1, lines ++ [u], by congr 1; omega, by simp; omega, ?_, ?_⟩, by simp [intOf]; omega⟩
            · intro i hi
              by_cases hil : i < lines.length
              · rw [List.getElem?_append_left hil]
                exact HSZ.out i hil
              · rw [List.getElem?_append_right (by omega), show i - lines.length = 0 by simp at hi; omega]
                simp only [List.getElem?_cons_zero, Option.getD_some]
                omega
            · exact ⟨(rq.grown hg3 (fun k e => by have := (oe.lt k e).1; have := LA.hb; omega)).mono (by simp; omega), by simpa [strsV] using own3, below_grown bq bq.size oe hHB hg3, LA.hR, LA.hb, Nat.le_trans LA.hw (Nat.le_trans (by simp) hg3.size)⟩
          · have f0 : (y == 0) = false := by rw [beq_eq_false_iff_ne]; exact hy0
            have f1 : (y == 1) = false := by rw [beq_eq_false_iff_ne]; exact hy1
            have LA := LA.mono (show _ ≤ K + 20 by omega)
            have oe := LA.own.alloc (.cells #[.string (ByteArray.mk #[100, 97, 114, 107, 32] ++ pan)] 9)
            have bq := LA.below.alloc LA.below.size (.cells #[.string (ByteArray.mk #[100, 97, 114, 107, 32] ++ pan)] 9)
            have rq := LA.rd.grown_alloc (.cells #[.string (ByteArray.mk #[100, 97, 114, 107, 32] ++ pan)] 9)
            have hHB := HWB.out.size
            go_wp2_with (first
              | (at_builtin; refine put_own rfl (.tmp 68) (.tmp 70) rfl Tryz.underlying23 elem_str rfl oe rfl (m := 1) (news := [.string (ByteArray.mk #[100, 97, 114, 107, 32] ++ pan)]) rfl (row_new _ _ _ rfl) (by simp [Value.oneCell']) (by omega) (by omega) (by have := LA.hw; simp; omega) ?_
                 intro v3 w3 own3 hg3 ho3))
            refine ⟨⟨j - 1, lines ++ [ByteArray.mk #[100, 97, 114, 107, 32] ++ pan], by congr 1; omega, by simp; omega, ?_, ?_⟩, by simp [intOf]; omega⟩
            · intro i hi
              by_cases hil : i < lines.length
              · rw [List.getElem?_append_left hil]
                exact HSZ.out i hil
              · rw [List.getElem?_append_right (by omega), show i - lines.length = 0 by simp at hi; omega]
                simp only [List.getElem?_cons_zero, Option.getD_some]
                omega
            · exact ⟨(rq.grown hg3 (fun k e => by have := (oe.lt k e).1; have := LA.hb; omega)).mono (by simp; omega), by simpa [strsV] using own3, below_grown bq bq.size oe hHB hg3, LA.hR, LA.hb, Nat.le_trans LA.hw (Nat.le_trans (by simp) hg3.size)⟩
      · have hP := hide (pick_c 250 R _ _ _ LA.rd (by omega) (by omega) (by omega))
        go_wp2_with fail
        refine hP.out.mono ?_
        rintro e w7 ⟨pa, rfl, a1, _, rdq, hgq⟩
        obtain ⟨a0, a1⟩ := a1 (by omega)
        have LA := LA.draw rdq hgq
        have hN := hide (fun w5 => number_c (pa) w5 (by omega) (by omega))
        have hn1 := num_size (pa)
        clear hP rdq hgq
        go_wp2_with fail
        refine (hN.out _).mono ?_
        rintro e w8 ⟨rfl, bq⟩
        have LA := LA.then bq
        generalize numB (pa) = pan at *
        clear hN bq a0 a1
        have hb1 : (ByteArray.mk #[112, 101, 103, 115, 32]).size + pan.size ≤ 9223372036854775807 := by
          have : (ByteArray.mk #[112, 101, 103, 115, 32]).size = 5 := rfl
          omega
        have hs1 : (ByteArray.mk #[112, 101, 103, 115, 32] ++ pan).size ≤ 60 := by
          have : (ByteArray.mk #[112, 101, 103, 115, 32]).size = 5 := rfl
          rw [ByteArray.size_append]
          omega
        have hP := hide (pick_c 8 R _ _ _ LA.rd (by omega) (by omega) (by omega))
        go_wp2_with fail
        refine hP.out.mono ?_
        rintro e wy ⟨y, rfl, y1, _, rdq, hgq⟩
        obtain ⟨y0, y1⟩ := y1 (by omega)
        have LA := LA.draw rdq hgq
        clear hP rdq hgq
        by_cases hy0 : y = 0
        · subst hy0
          have hOF := hide (of_new [⟨#[]⟩, ⟨#[104, 101, 108, 112]⟩, ⟨#[116, 105, 108, 101, 32, 49]⟩, ⟨#[98, 111, 97, 114, 100, 32, 51]⟩, ⟨#[98, 111, 97, 114, 100, 32, 54, 32, 49]⟩, ⟨#[107, 105, 110, 103]⟩, ⟨#[107, 105, 110, 103, 32, 50, 53]⟩, ⟨#[100, 97, 114, 107]⟩, ⟨#[112, 101, 103, 115, 32, 52, 48, 57, 54]⟩, ⟨#[102, 111, 108, 100, 32, 49]⟩] R _ _ _ LA.rd (by omega) (by decide) (by decide))
          go_wp2_with fail
          refine hOF.out.mono ?_
          rintro e wz ⟨u, rfl, hm, rdq, hgq⟩
          have hu : u.size ≤ 60 := by
            simp only [List.mem_cons, List.not_mem_nil, or_false] at hm
            rcases hm with rfl | rfl | rfl | rfl | rfl | rfl | rfl | rfl | rfl | rfl <;> decide
          have LA := LA.draw rdq hgq
          clear hOF hm rdq hgq
          have LA := LA.mono (show _ ≤ K + 20 by omega)
          have oe := LA.own.alloc (.cells #[.string (u)] 9)
          have bq := LA.below.alloc LA.below.size (.cells #[.string (u)] 9)
          have rq := LA.rd.grown_alloc (.cells #[.string (u)] 9)
          have hHB := HWB.out.size
          go_wp2_with (first
            | (at_builtin; refine put_own rfl (.tmp 68) (.tmp 70) rfl Tryz.underlying23 elem_str rfl oe rfl (m := 1) (news := [.string (u)]) rfl (row_new _ _ _ rfl) (by simp [Value.oneCell']) (by omega) (by omega) (by have := LA.hw; simp; omega) ?_
               intro v3 w3 own3 hg3 ho3))
          refine ⟨⟨j - 1, lines ++ [u], by congr 1; omega, by simp; omega, ?_, ?_⟩, by simp [intOf]; omega⟩
          · intro i hi
            by_cases hil : i < lines.length
            · rw [List.getElem?_append_left hil]
              exact HSZ.out i hil
            · rw [List.getElem?_append_right (by omega), show i - lines.length = 0 by simp at hi; omega]
              simp only [List.getElem?_cons_zero, Option.getD_some]
              omega
          · exact ⟨(rq.grown hg3 (fun k e => by have := (oe.lt k e).1; have := LA.hb; omega)).mono (by simp; omega), by simpa [strsV] using own3, below_grown bq bq.size oe hHB hg3, LA.hR, LA.hb, Nat.le_trans LA.hw (Nat.le_trans (by simp) hg3.size)⟩
        · by_cases hy1 : y = 1
          · subst hy1
            have hMU := hide (mutate_c (ByteArray.mk #[112, 101, 103, 115, 32] ++ pan) R _ _ _ LA.rd (by omega) (by omega))
            go_wp2_with fail
            refine hMU.out.mono ?_
            rintro e wz ⟨u, rfl, hu, rdq, hgq⟩
            have LA := LA.draw rdq hgq
            clear hMU rdq hgq
            have LA := LA.mono (show _ ≤ K + 20 by omega)
            have oe := LA.own.alloc (.cells #[.string (u)] 9)
            have bq := LA.below.alloc LA.below.size (.cells #[.string (u)] 9)
            have rq := LA.rd.grown_alloc (.cells #[.string (u)] 9)
            have hHB := HWB.out.size
            go_wp2_with (first
              | (at_builtin; refine put_own rfl (.tmp 68) (.tmp 70) rfl Tryz.underlying23 elem_str rfl oe rfl (m := 1) (news := [.string (u)]) rfl (row_new _ _ _ rfl) (by simp [Value.oneCell']) (by omega) (by omega) (by have := LA.hw; simp; omega) ?_
                 intro v3 w3 own3 hg3 ho3))
            refine ⟨⟨j - 1, lines ++ [u], by congr 1; omega, by simp; omega, ?_, ?_⟩, by simp [intOf]; omega⟩
            · intro i hi
              by_cases hil : i < lines.length
              · rw [List.getElem?_append_left hil]
                exact HSZ.out i hil
              · rw [List.getElem?_append_right (by omega), show i - lines.length = 0 by simp at hi; omega]
                simp only [List.getElem?_cons_zero, Option.getD_some]
                omega
            · exact ⟨(rq.grown hg3 (fun k e => by have := (oe.lt k e).1; have := LA.hb; omega)).mono (by simp; omega), by simpa [strsV] using own3, below_grown bq bq.size oe hHB hg3, LA.hR, LA.hb, Nat.le_trans LA.hw (Nat.le_trans (by simp) hg3.size)⟩
          · have f0 : (y == 0) = false := by rw [beq_eq_false_iff_ne]; exact hy0
            have f1 : (y == 1) = false := by rw [beq_eq_false_iff_ne]; exact hy1
            have LA := LA.mono (show _ ≤ K + 20 by omega)
            have oe := LA.own.alloc (.cells #[.string (ByteArray.mk #[112, 101, 103, 115, 32] ++ pan)] 9)
            have bq := LA.below.alloc LA.below.size (.cells #[.string (ByteArray.mk #[112, 101, 103, 115, 32] ++ pan)] 9)
            have rq := LA.rd.grown_alloc (.cells #[.string (ByteArray.mk #[112, 101, 103, 115, 32] ++ pan)] 9)
            have hHB := HWB.out.size
            go_wp2_with (first
              | (at_builtin; refine put_own rfl (.tmp 68) (.tmp 70) rfl Tryz.underlying23 elem_str rfl oe rfl (m := 1) (news := [.string (ByteArray.mk #[112, 101, 103, 115, 32] ++ pan)]) rfl (row_new _ _ _ rfl) (by simp [Value.oneCell']) (by omega) (by omega) (by have := LA.hw; simp; omega) ?_
                 intro v3 w3 own3 hg3 ho3))
            refine ⟨⟨j - 1, lines ++ [ByteArray.mk #[112, 101, 103, 115, 32] ++ pan], by congr 1; omega, by simp; omega, ?_, ?_⟩, by simp [intOf]; omega⟩
            · intro i hi
              by_cases hil : i < lines.length
              · rw [List.getElem?_append_left hil]
                exact HSZ.out i hil
              · rw [List.getElem?_append_right (by omega), show i - lines.length = 0 by simp at hi; omega]
                simp only [List.getElem?_cons_zero, Option.getD_some]
                omega
            · exact ⟨(rq.grown hg3 (fun k e => by have := (oe.lt k e).1; have := LA.hb; omega)).mono (by simp; omega), by simpa [strsV] using own3, below_grown bq bq.size oe hHB hg3, LA.hR, LA.hb, Nat.le_trans LA.hw (Nat.le_trans (by simp) hg3.size)⟩
      · have hs1 : (ByteArray.mk #[102, 111, 108, 100]).size ≤ 60 := by decide
        have hP := hide (pick_c 8 R _ _ _ LA.rd (by omega) (by omega) (by omega))
        go_wp2_with fail
        refine hP.out.mono ?_
        rintro e wy ⟨y, rfl, y1, _, rdq, hgq⟩
        obtain ⟨y0, y1⟩ := y1 (by omega)
        have LA := LA.draw rdq hgq
        clear hP rdq hgq
        by_cases hy0 : y = 0
        · subst hy0
          have hOF := hide (of_new [⟨#[]⟩, ⟨#[104, 101, 108, 112]⟩, ⟨#[116, 105, 108, 101, 32, 49]⟩, ⟨#[98, 111, 97, 114, 100, 32, 51]⟩, ⟨#[98, 111, 97, 114, 100, 32, 54, 32, 49]⟩, ⟨#[107, 105, 110, 103]⟩, ⟨#[107, 105, 110, 103, 32, 50, 53]⟩, ⟨#[100, 97, 114, 107]⟩, ⟨#[112, 101, 103, 115, 32, 52, 48, 57, 54]⟩, ⟨#[102, 111, 108, 100, 32, 49]⟩] R _ _ _ LA.rd (by omega) (by decide) (by decide))
          go_wp2_with fail
          refine hOF.out.mono ?_
          rintro e wz ⟨u, rfl, hm, rdq, hgq⟩
          have hu : u.size ≤ 60 := by
            simp only [List.mem_cons, List.not_mem_nil, or_false] at hm
            rcases hm with rfl | rfl | rfl | rfl | rfl | rfl | rfl | rfl | rfl | rfl <;> decide
          have LA := LA.draw rdq hgq
          clear hOF hm rdq hgq
          have LA := LA.mono (show _ ≤ K + 20 by omega)
          have oe := LA.own.alloc (.cells #[.string (u)] 9)
          have bq := LA.below.alloc LA.below.size (.cells #[.string (u)] 9)
          have rq := LA.rd.grown_alloc (.cells #[.string (u)] 9)
          have hHB := HWB.out.size
          go_wp2_with (first
            | (at_builtin; refine put_own rfl (.tmp 68) (.tmp 70) rfl Tryz.underlying23 elem_str rfl oe rfl (m := 1) (news := [.string (u)]) rfl (row_new _ _ _ rfl) (by simp [Value.oneCell']) (by omega) (by omega) (by have := LA.hw; simp; omega) ?_
               intro v3 w3 own3 hg3 ho3))
          refine ⟨⟨j - 1, lines ++ [u], by congr 1; omega, by simp; omega, ?_, ?_⟩, by simp [intOf]; omega⟩
          · intro i hi
            by_cases hil : i < lines.length
            · rw [List.getElem?_append_left hil]
              exact HSZ.out i hil
            · rw [List.getElem?_append_right (by omega), show i - lines.length = 0 by simp at hi; omega]
              simp only [List.getElem?_cons_zero, Option.getD_some]
              omega
          · exact ⟨(rq.grown hg3 (fun k e => by have := (oe.lt k e).1; have := LA.hb; omega)).mono (by simp; omega), by simpa [strsV] using own3, below_grown bq bq.size oe hHB hg3, LA.hR, LA.hb, Nat.le_trans LA.hw (Nat.le_trans (by simp) hg3.size)⟩
        · by_cases hy1 : y = 1
          · subst hy1
            have hMU := hide (mutate_c (ByteArray.mk #[102, 111, 108, 100]) R _ _ _ LA.rd (by omega) (by omega))
            go_wp2_with fail
            refine hMU.out.mono ?_
            rintro e wz ⟨u, rfl, hu, rdq, hgq⟩
            have LA := LA.draw rdq hgq
            clear hMU rdq hgq
            have LA := LA.mono (show _ ≤ K + 20 by omega)
            have oe := LA.own.alloc (.cells #[.string (u)] 9)
            have bq := LA.below.alloc LA.below.size (.cells #[.string (u)] 9)
            have rq := LA.rd.grown_alloc (.cells #[.string (u)] 9)
            have hHB := HWB.out.size
            go_wp2_with (first
              | (at_builtin; refine put_own rfl (.tmp 68) (.tmp 70) rfl Tryz.underlying23 elem_str rfl oe rfl (m := 1) (news := [.string (u)]) rfl (row_new _ _ _ rfl) (by simp [Value.oneCell']) (by omega) (by omega) (by have := LA.hw; simp; omega) ?_
                 intro v3 w3 own3 hg3 ho3))
            refine ⟨⟨j - 1, lines ++ [u], by congr 1; omega, by simp; omega, ?_, ?_⟩, by simp [intOf]; omega⟩
            · intro i hi
              by_cases hil : i < lines.length
              · rw [List.getElem?_append_left hil]
                exact HSZ.out i hil
              · rw [List.getElem?_append_right (by omega), show i - lines.length = 0 by simp at hi; omega]
                simp only [List.getElem?_cons_zero, Option.getD_some]
                omega
            · exact ⟨(rq.grown hg3 (fun k e => by have := (oe.lt k e).1; have := LA.hb; omega)).mono (by simp; omega), by simpa [strsV] using own3, below_grown bq bq.size oe hHB hg3, LA.hR, LA.hb, Nat.le_trans LA.hw (Nat.le_trans (by simp) hg3.size)⟩
          · have f0 : (y == 0) = false := by rw [beq_eq_false_iff_ne]; exact hy0
            have f1 : (y == 1) = false := by rw [beq_eq_false_iff_ne]; exact hy1
            have LA := LA.mono (show _ ≤ K + 20 by omega)
            have oe := LA.own.alloc (.cells #[.string (ByteArray.mk #[102, 111, 108, 100])] 9)
            have bq := LA.below.alloc LA.below.size (.cells #[.string (ByteArray.mk #[102, 111, 108, 100])] 9)
            have rq := LA.rd.grown_alloc (.cells #[.string (ByteArray.mk #[102, 111, 108, 100])] 9)
            have hHB := HWB.out.size
            go_wp2_with (first
              | (at_builtin; refine put_own rfl (.tmp 68) (.tmp 70) rfl Tryz.underlying23 elem_str rfl oe rfl (m := 1) (news := [.string (ByteArray.mk #[102, 111, 108, 100])]) rfl (row_new _ _ _ rfl) (by simp [Value.oneCell']) (by omega) (by omega) (by have := LA.hw; simp; omega) ?_
                 intro v3 w3 own3 hg3 ho3))
            refine ⟨⟨j - 1, lines ++ [ByteArray.mk #[102, 111, 108, 100]], by congr 1; omega, by simp; omega, ?_, ?_⟩, by simp [intOf]; omega⟩
            · intro i hi
              by_cases hil : i < lines.length
              · rw [List.getElem?_append_left hil]
                exact HSZ.out i hil
              · rw [List.getElem?_append_right (by omega), show i - lines.length = 0 by simp at hi; omega]
                simp only [List.getElem?_cons_zero, Option.getD_some]
                omega
            · exact ⟨(rq.grown hg3 (fun k e => by have := (oe.lt k e).1; have := LA.hb; omega)).mono (by simp; omega), by simpa [strsV] using own3, below_grown bq bq.size oe hHB hg3, LA.hR, LA.hb, Nat.le_trans LA.hw (Nat.le_trans (by simp) hg3.size)⟩
      · have hs1 := hs0
        have hP := hide (pick_c 8 R _ _ _ LA.rd (by omega) (by omega) (by omega))
        go_wp2_with fail
        refine hP.out.mono ?_
        rintro e wy ⟨y, rfl, y1, _, rdq, hgq⟩
        obtain ⟨y0, y1⟩ := y1 (by omega)
        have LA := LA.draw rdq hgq
        clear hP rdq hgq
        by_cases hy0 : y = 0
        · subst hy0
          have hOF := hide (of_new [⟨#[]⟩, ⟨#[104, 101, 108, 112]⟩, ⟨#[116, 105, 108, 101, 32, 49]⟩, ⟨#[98, 111, 97, 114, 100, 32, 51]⟩, ⟨#[98, 111, 97, 114, 100, 32, 54, 32, 49]⟩, ⟨#[107, 105, 110, 103]⟩, ⟨#[107, 105, 110, 103, 32, 50, 53]⟩, ⟨#[100, 97, 114, 107]⟩, ⟨#[112, 101, 103, 115, 32, 52, 48, 57, 54]⟩, ⟨#[102, 111, 108, 100, 32, 49]⟩] R _ _ _ LA.rd (by omega) (by decide) (by decide))
          go_wp2_with fail
          refine hOF.out.mono ?_
          rintro e wz ⟨u, rfl, hm, rdq, hgq⟩
          have hu : u.size ≤ 60 := by
            simp only [List.mem_cons, List.not_mem_nil, or_false] at hm
            rcases hm with rfl | rfl | rfl | rfl | rfl | rfl | rfl | rfl | rfl | rfl <;> decide
          have LA := LA.draw rdq hgq
          clear hOF hm rdq hgq
          have LA := LA.mono (show _ ≤ K + 20 by omega)
          have oe := LA.own.alloc (.cells #[.string (u)] 9)
          have bq := LA.below.alloc LA.below.size (.cells #[.string (u)] 9)
          have rq := LA.rd.grown_alloc (.cells #[.string (u)] 9)
          have hHB := HWB.out.size
          go_wp2_with (first
            | (at_builtin; refine put_own rfl (.tmp 68) (.tmp 70) rfl Tryz.underlying23 elem_str rfl oe rfl (m := 1) (news := [.string (u)]) rfl (row_new _ _ _ rfl) (by simp [Value.oneCell']) (by omega) (by omega) (by have := LA.hw; simp; omega) ?_
               intro v3 w3 own3 hg3 ho3))
          refine ⟨⟨j - 1, lines ++ [u], by congr 1; omega, by simp; omega, ?_, ?_⟩, by simp [intOf]; omega⟩
          · intro i hi
            by_cases hil : i < lines.length
            · rw [List.getElem?_append_left hil]
              exact HSZ.out i hil
            · rw [List.getElem?_append_right (by omega), show i - lines.length = 0 by simp at hi; omega]
              simp only [List.getElem?_cons_zero, Option.getD_some]
              omega
          · exact ⟨(rq.grown hg3 (fun k e => by have := (oe.lt k e).1; have := LA.hb; omega)).mono (by simp; omega), by simpa [strsV] using own3, below_grown bq bq.size oe hHB hg3, LA.hR, LA.hb, Nat.le_trans LA.hw (Nat.le_trans (by simp) hg3.size)⟩
        · by_cases hy1 : y = 1
          · subst hy1
            have hMU := hide (mutate_c (t ++ ByteArray.mk #[32] ++ pn) R _ _ _ LA.rd (by omega) (by omega))
            go_wp2_with fail
            refine hMU.out.mono ?_
            rintro e wz ⟨u, rfl, hu, rdq, hgq⟩
            have LA := LA.draw rdq hgq
            clear hMU rdq hgq
            have LA := LA.mono (show _ ≤ K + 20 by omega)
            have oe := LA.own.alloc (.cells #[.string (u)] 9)
            have bq := LA.below.alloc LA.below.size (.cells #[.string (u)] 9)
            have rq := LA.rd.grown_alloc (.cells #[.string (u)] 9)
            have hHB := HWB.out.size
            go_wp2_with (first
              | (at_builtin; refine put_own rfl (.tmp 68) (.tmp 70) rfl Tryz.underlying23 elem_str rfl oe rfl (m := 1) (news := [.string (u)]) rfl (row_new _ _ _ rfl) (by simp [Value.oneCell']) (by omega) (by omega) (by have := LA.hw; simp; omega) ?_
                 intro v3 w3 own3 hg3 ho3))
            refine ⟨⟨j - 1, lines ++ [u], by congr 1; omega, by simp; omega, ?_, ?_⟩, by simp [intOf]; omega⟩
            · intro i hi
              by_cases hil : i < lines.length
              · rw [List.getElem?_append_left hil]
                exact HSZ.out i hil
              · rw [List.getElem?_append_right (by omega), show i - lines.length = 0 by simp at hi; omega]
                simp only [List.getElem?_cons_zero, Option.getD_some]
                omega
            · exact ⟨(rq.grown hg3 (fun k e => by have := (oe.lt k e).1; have := LA.hb; omega)).mono (by simp; omega), by simpa [strsV] using own3, below_grown bq bq.size oe hHB hg3, LA.hR, LA.hb, Nat.le_trans LA.hw (Nat.le_trans (by simp) hg3.size)⟩
          · have f0 : (y == 0) = false := by rw [beq_eq_false_iff_ne]; exact hy0
            have f1 : (y == 1) = false := by rw [beq_eq_false_iff_ne]; exact hy1
            have LA := LA.mono (show _ ≤ K + 20 by omega)
            have oe := LA.own.alloc (.cells #[.string (t ++ ByteArray.mk #[32] ++ pn)] 9)
            have bq := LA.below.alloc LA.below.size (.cells #[.string (t ++ ByteArray.mk #[32] ++ pn)] 9)
            have rq := LA.rd.grown_alloc (.cells #[.string (t ++ ByteArray.mk #[32] ++ pn)] 9)
            have hHB := HWB.out.size
            go_wp2_with (first
              | (at_builtin; refine put_own rfl (.tmp 68) (.tmp 70) rfl Tryz.underlying23 elem_str rfl oe rfl (m := 1) (news := [.string (t ++ ByteArray.mk #[32] ++ pn)]) rfl (row_new _ _ _ rfl) (by simp [Value.oneCell']) (by omega) (by omega) (by have := LA.hw; simp; omega) ?_
                 intro v3 w3 own3 hg3 ho3))
            refine ⟨⟨j - 1, lines ++ [t ++ ByteArray.mk #[32] ++ pn], by congr 1; omega, by simp; omega, ?_, ?_⟩, by simp [intOf]; omega⟩
            · intro i hi
              by_cases hil : i < lines.length
              · rw [List.getElem?_append_left hil]
                exact HSZ.out i hil
              · rw [List.getElem?_append_right (by omega), show i - lines.length = 0 by simp at hi; omega]
                simp only [List.getElem?_cons_zero, Option.getD_some]
                omega
            · exact ⟨(rq.grown hg3 (fun k e => by have := (oe.lt k e).1; have := LA.hb; omega)).mono (by simp; omega), by simpa [strsV] using own3, below_grown bq bq.size oe hHB hg3, LA.hR, LA.hb, Nat.le_trans LA.hw (Nat.le_trans (by simp) hg3.size)⟩
end Go.Proofs.YtmfdlijkpdgimaaGreatDoor
