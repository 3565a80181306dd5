
/-
  The program's FirstImage: imagesOf, firstImage, FirstImage.
-/
import Derived.Test.YtlccohoblplddadPFirstB
namespace Go.Proofs.Ytlccohoblplddad
open Go.RowKit
set_option linter.unusedVariables false

theorem rows_put {D B n : Nat} {w w' : World} {vs xs : List Value} {L : List (List Int)} {v : Value} (h : Rows1 D w vs L) (hv : w.ownsRow B 27 1 v n xs) (hg : w.grownBy w' v.ownBlock) : Rows1 D w' vs L :=
  h.same fun u hu g eg => by
    obtain ⟨x, A, c, _, ho⟩ := h.mem u hu
    refine hg.block g (ho.lt g eg).2 fun e => ?_
    obtain ⟨cur, hc⟩ := own_type ho eg
    obtain ⟨cur', hc'⟩ := own_type hv e.symm
    rw [hc] at hc'
    simp at hc'
theorem rows_low {D B n : Nat} {w w' : World} {u v : Value} {x : List Int} {xs : List Value} {len : Nat} (h : w.ownsRow D 3 1 u len (ints x)) (hv : w.ownsRow B 27 1 v n xs) (hg : w.grownBy w' v.ownBlock) : w'.ownsRow D 3 1 u len (ints x) :=
  own_same h fun g eg => by
    refine hg.block g (h.lt g eg).2 fun e => ?_
    obtain ⟨cur, hc⟩ := own_type h eg
    obtain ⟨cur', hc'⟩ := own_type hv e.symm
    rw [hc] at hc'
    simp at hc'
/-- It hands back a row of rows of their own. -/
def Imaged (L : List (List Int)) (w : World) (e : Ending) (w' : World) : Prop := ∃ v vs, e = .returned v ∧ w'.ownsRow w.heap.size 27 1 v vs.length vs ∧ Rows1 w.heap.size w' vs L ∧ Below w.heap.size w w'
theorem Rows1.upto {D D' : Nat} {W : World} {vs : List Value} {L : List (List Int)} (h : Rows1 D W vs L) (hd : D' ≤ D) : Rows1 D' W vs L :=
  ⟨h.1, fun i hi => by obtain ⟨A, c, e, ho⟩ := h.2 i hi; exact ⟨A, c, e, own_mono ho hd⟩⟩
theorem Rows1.belowR {D : Nat} {W W' : World} {vs : List Value} {L : List (List Int)} (h : Rows1 D W vs L) (hb : Below W.heap.size W W') : Rows1 D W' vs L :=
  h.same fun u hu g eg => by
    obtain ⟨x, A, c, _, ho⟩ := h.mem u hu
    exact hb.block g (ho.lt g eg).2

set_option maxHeartbeats 4000000 in
set_option maxRecDepth 100000 in
theorem imagesOf_c (A : Option Addr) (c : Nat) (l : List Int) (w : World) (hr : Row w A (ints l)) (h1 : 1 ≤ l.length) (h6 : l.length ≤ 6) (hcols : Cols l.length l)
    (hex : ∀ t, t < 4 → exTo l.length (nowAt l t).reverse l.length = nowAt l (t + 1)) :
    Calls Try.prog 52 #[.slice A l.length c] w (Imaged (progTo l 4) w) := by
  have HU := hide (fun (t : Nat) (A' : Option Addr) (c' : Nat) (w5 : World) (h5 : Row w5 A' (ints (nowAt l t))) => show Calls Try.prog 60 #[.slice A' l.length c'] w5 (Owns 3 1 l.length (ints (nowAt l t).reverse) w5) by
    have hl := (nowAt_cols h1 hcols t).1
    have := upsideDown_c A' c' (nowAt l t) w5 h5 (by omega)
    rwa [hl] at this)
  have HX := hide (fun (t : Nat) (ht : t < 4) (A' : Option Addr) (c' : Nat) (w5 : World) (h5 : Row w5 A' (ints (nowAt l t).reverse)) => show Calls Try.prog 61 #[.slice A' l.length c'] w5 (Owns 3 1 l.length (ints (nowAt l (t + 1))) w5) by
    have hc := nowAt_cols h1 hcols t
    have hl : (nowAt l t).reverse.length = l.length := by rw [List.length_reverse]; exact hc.1
    have := exchanged_c A' c' (nowAt l t).reverse w5 h5 (by omega) ⟨rfl, fun i hi => by
      rw [hl] at hi ⊢
      rw [List.getElem?_reverse (by rw [hc.1]; exact hi)]
      exact hc.2 _ (by have := hc.1; omega)⟩
    rw [hl, hex t ht] at this
    exact this)
  have HNL := hide (fun t => (nowAt_cols h1 hcols t).1)
  have h00 : nowAt l 0 = l := rfl
  have hr0 : Row w A (ints (nowAt l 0)) := hr
  clear hcols hex h00 hr
  go_enter Try.func52, Try.ntmps52
  go_wp2_with fail
  go_loopw [3, 4, 7] (fun v im i wr => ∃ (t : Nat) (vs : List Value) (At : Option Addr) (ct : Nat), t ≤ 4 ∧ i = .int .i64 (t : Int) ∧ im = .slice At l.length ct ∧ Row wr At (ints (nowAt l t)) ∧ wr.ownsRow w.heap.size 27 1 v vs.length vs ∧ Rows1 w.heap.size wr vs (progTo l t) ∧ Below w.heap.size w wr) (fun _ _ i _ => 4 - (intOf i).toNat)
  case atStart => exact ⟨0, [], A, c, by omega, rfl, rfl, hr0, World.ownsRow_nil _ _ _ _, Rows1.nil _ _, Below.refl _ _⟩
  case round =>
    obtain ⟨t, vs, At, ct, ht, rfl, rfl, hrt, hown, hrs, hb⟩ := hrel
    obtain ⟨wo, rfl⟩ : ∃ wo : World, wo = wr := ⟨_, rfl⟩
    obtain ⟨Av, cv, rfl, _⟩ := own_row hown
    by_cases hlt : t < 4
    · have hdt : decide ((t : Int) < 4) = true := by simp; omega
      have hvl : vs.length = 2 * t := by have := hrs.1; rwa [progTo_len] at this
      have HVL := hide (show vs.length ≤ 8 by omega)
      clear hvl
      have z := hb.size
      have HU1 := hide (HU.out t At ct wo hrt)
      have HX1 := hide (fun A' c' w5 h5 => HX.out t hlt A' c' w5 h5)
      have HP : Hid (progTo l (t + 1) = progTo l t ++ [(nowAt l t).reverse] ++ [nowAt l (t + 1)]) := by show _ = _; rw [progTo]; simp
      have hl1 : (nowAt l t).reverse.length = l.length := by rw [List.length_reverse]; exact HNL.out t
      have hl2 := HNL.out (t + 1)
      clear hrt
      generalize hd : (nowAt l t).reverse = down at *
      generalize hi : nowAt l (t + 1) = img at *
      clear hd
      go_wp2_with fail
      refine HU1.out.mono ?_
      rintro e w1 ⟨v1, rfl, o1, b1⟩
      obtain ⟨A1, c1, rfl, _⟩ := own_row o1
      go_wp2_with fail
      refine (HX1.out A1 c1 w1 (own_reads o1)).mono ?_
      rintro e w2 ⟨v2, rfl, o2, b2⟩
      obtain ⟨A2, c2, rfl, _⟩ := own_row o2
      have b12 := below_then b1 b1.size b2
      have bw2 := below_then hb z b12
      have own2 := own_below hown b12
      have rs2 := hrs.belowR b12
      have o1 := own_below o1 b2
      have hrow : Row (w2.alloc (.cells #[.slice A1 l.length c1, .slice A2 l.length c2] 27)) (some ⟨w2.heap.size, 0, none⟩) [.slice A1 l.length c1, .slice A2 l.length c2] := row_new w2 #[.slice A1 l.length c1, .slice A2 l.length c2] 27 rfl
      have ba : Below w2.heap.size w2 (w2.alloc (.cells #[.slice A1 l.length c1, .slice A2 l.length c2] 27)) := (Below.refl _ _).alloc (Nat.le_refl _) _
      have own3 := own_below own2 ba
      have rs3 := rs2.belowR ba
      have o13 := own_below o1 ba
      have o23 := own_below o2 ba
      have bw3 := below_then bw2 bw2.size ba
      have z1 := b1.size
      clear own2 rs2 o1 o2 hrs hown HU1 HX1
      go_wp2_with ((at_builtin; go_loud (refine put_own rfl (.tmp 13) (.tmp 16) rfl Try.underlying24 elem_rows rfl own3 rfl (m := 2) (news := [.slice A1 l.length c1, .slice A2 l.length c2]) rfl hrow (by simp [Value.oneCell']) (by have := HVL.out; omega) (by omega) bw3.size ?_); intro v5 w5 own5 hg5 ho5))
      have rs5 := rows_put rs3 own3 hg5
      have o15 := rows_low o13 own3 hg5
      have o25 := rows_low o23 own3 hg5
      have B5 := hide (below_grown bw3 bw3.size own3 (Nat.le_refl _) hg5)
      have O15 := hide (show w5.ownsRow w.heap.size 3 1 (.slice A1 down.length c1) down.length (ints down) by rw [hl1]; exact own_mono o15 z)
      have O25 := hide (show w5.ownsRow w.heap.size 3 1 (.slice A2 img.length c2) img.length (ints img) by rw [hl2]; exact own_mono o25 (Nat.le_trans z z1))
      have R5 := hide (show Rows1 w.heap.size w5 (vs ++ [.slice A1 l.length c1, .slice A2 l.length c2]) (progTo l (t + 1)) by
        have h := (rs5.snoc O15.out).snoc O25.out
        rw [HP.out]
        rw [hl1, hl2, List.append_assoc] at h
        exact h)
      have RA := hide (show Row w5 A2 (ints (nowAt l (t + 1))) by rw [hi]; exact own_reads o25)
      have O5 := hide (show w5.ownsRow w.heap.size 27 1 v5 (vs ++ [Value.slice A1 l.length c1, Value.slice A2 l.length c2]).length (vs ++ [Value.slice A1 l.length c1, Value.slice A2 l.length c2]) by simpa using own5)
      clear rs5 o15 o25 own5 rs3 own3 o13 o23 hg5 hi
      obtain ⟨A5, c5, e5, _⟩ := own_row O5.out
      go_wp2_with fail
      exact ⟨⟨t + 1, _, A2, c2, hlt, by go_num, rfl, RA.out, O5.out, R5.out, B5.out⟩, by simp [intOf]; omega⟩
    · obtain rfl : t = 4 := by omega
      have O5 := hide hown
      have R5 := hide hrs
      clear hown hrs
      go_wp2_with fail
      go_ret
      exact ⟨_, vs, rfl, O5.out, R5.out, hb⟩
theorem progTo_all {l : List Int} (h1 : 1 ≤ l.length) (h : Cols l.length l) : ∀ t, ∀ x ∈ progTo l t, x.length = l.length
  | 0, x, hx => by cases hx
  | t + 1, x, hx => by
    simp only [progTo, List.mem_append, List.mem_cons, List.not_mem_nil, or_false] at hx
    rcases hx with hx | rfl | rfl
    · exact progTo_all h1 h t x hx
    · rw [List.length_reverse]; exact (nowAt_cols h1 h t).1
    · exact (nowAt_cols h1 h (t + 1)).1
set_option maxHeartbeats 1000000 in
theorem firstImage_c (A : Option Addr) (c : Nat) (l : List Int) (w : World) (hr : Row w A (ints l)) (hok : ImgOk l) :
    Calls Try.prog 38 #[.slice A l.length c] w (Owns 3 1 l.length (ints (firstP l)) w) := by
  obtain ⟨hex, hbest⟩ := img_ok hok
  have HI := hide (imagesOf_c A c l w hr hok.1.1 hok.1.2 hok.cols hex)
  have HA := hide (progTo_all hok.1.1 hok.cols 4)
  have hl6 := hok.1.2
  have HBE := hide hbest
  have HPL := hide (progTo_len l 4)
  clear hex hbest hok hr
  go_enter Try.func38, Try.ntmps38
  go_wp2_with fail
  refine HI.out.mono ?_
  rintro e w1 ⟨v, vs, rfl, own, rs, b1⟩
  have hvl : vs.length = (progTo l 4).length := rs.1
  rw [hvl] at own
  obtain ⟨A1, c1, rfl, _⟩ := own_row own
  have HM := hide (minFunc_c A1 c1 vs (progTo l 4) l.length w.heap.size w1 (own_reads own) rs (by rw [HPL.out]; omega) (by rw [HPL.out]; omega) HA.out hl6)
  rw [HPL.out, show 2 * 4 - 1 = 7 from rfl, HBE.out] at HM
  rw [HPL.out] at own
  have B1 := hide b1
  have O1 := hide own
  rw [HPL.out] at hvl
  clear own rs b1 HI HA
  generalize firstP l = res at *
  go_wp2_with fail
  refine HM.out.mono ?_
  rintro e w2 ⟨⟨A', c', rfl, ho⟩, rfl⟩
  have Ho := hide ho
  clear ho
  go_wp2_with fail
  go_ret
  exact ⟨_, rfl, Ho.out, B1.out⟩
set_option maxHeartbeats 1000000 in
theorem implFirstImage_c (A : Option Addr) (c : Nat) (l : List Int) (w : World) (hr : Row w A (ints l)) (hm : l.length ≤ 1048576) :
    Calls Try.prog 22 #[.slice A l.length c] w (Owns 3 1 (firstP l).length (ints (firstP l)) w) := by
  have HT := hide (fun w5 => fitQueens_c (l.length : Int) w5)
  by_cases h : 1 ≤ l.length ∧ l.length ≤ 6
  · have hh : 1 ≤ (l.length : Int) ∧ (l.length : Int) ≤ 6 := by omega
    rw [decide_eq_true hh] at HT
    have HO := hide (isOrder_c A c l w hr h.2)
    by_cases ho : OnceTo l l.length
    · rw [decide_eq_true ho] at HO
      have HF := hide (fun w5 h5 => firstImage_c A c l w5 h5 ⟨h, ho⟩)
      have HL := hide (firstP_len ⟨h, ho⟩)
      have hl6 := h.2
      rw [HL.out]
      clear h ho hh
      generalize firstP l = res at *
      go_enter Try.func22, Try.ntmps22
      go_wp2_with fail
      refine (HT.out _).mono ?_
      rintro e w1 ⟨rfl, rfl⟩
      go_wp2_with fail
      refine HO.out.mono ?_
      rintro e w2 ⟨rfl, b2⟩
      go_wp2_with fail
      refine (HF.out w2 (hr.below b2)).mono ?_
      rintro e w3 ⟨v3, rfl, o3, b3⟩
      obtain ⟨A3, c3, rfl, _⟩ := own_row o3
      have O3 := hide (own_mono o3 b2.size)
      have B3 := hide (below_then b2 b2.size b3)
      clear o3 b3 b2
      go_wp2_with fail
      go_ret
      exact ⟨_, rfl, O3.out, B3.out⟩
    · rw [decide_eq_false ho] at HO
      have HN : Hid (firstP l = []) := by show _ = _; unfold firstP; rw [if_neg (fun hh => ho hh.2)]
      rw [HN.out]
      clear h ho hh HN
      go_enter Try.func22, Try.ntmps22
      go_wp2_with fail
      refine (HT.out _).mono ?_
      rintro e w1 ⟨rfl, rfl⟩
      go_wp2_with fail
      refine HO.out.mono ?_
      rintro e w2 ⟨rfl, b2⟩
      go_wp2_with fail
      go_ret
      exact ⟨_, rfl, World.ownsRow_nil _ _ _ _, b2⟩
  · have hh : ¬ (1 ≤ (l.length : Int) ∧ (l.length : Int) ≤ 6) := by omega
    rw [decide_eq_false hh] at HT
    have HN : Hid (firstP l = []) := by show _ = _; unfold firstP; rw [if_neg (fun hh => h hh.1)]
    rw [HN.out]
    clear h hh HN
    go_enter Try.func22, Try.ntmps22
    go_wp2_with fail
    refine (HT.out _).mono ?_
    rintro e w1 ⟨rfl, rfl⟩
    go_wp2_with fail
    go_ret
    exact ⟨_, rfl, World.ownsRow_nil _ _ _ _, Below.refl _ _⟩
end Go.Proofs.Ytlccohoblplddad
