
/-
  The program's rooks cell by cell.
-/
import Derived.Test.YtlccohoblplddaaCellA
namespace Go.Proofs.Ytlccohoblplddaa
open Go.RowKit
set_option linter.unusedVariables false

def rkL (R : List Nat) : List Int := (List.range (R.length + 1)).map fun k => ((rk R 0 k : Nat) : Int)
theorem rkL_of {R : List Nat} {Z : List Int} (h1 : Z.length = R.length + 1) (h2 : ∀ j, j ≤ R.length → Z[j]?.getD 0 = ((rk R 0 j : Nat) : Int)) : Z = rkL R := by
  apply List.ext_getElem
  · simp [rkL, h1]
  · intro i i1 i2
    have := h2 i (by omega)
    rw [List.getElem?_eq_getElem i1, Option.getD_some] at this
    simp only [rkL, List.getElem_map, List.getElem_range]
    exact this
theorem rkL_at {R : List Nat} {j : Nat} (h : j ≤ R.length) : (rkL R)[j]?.getD 0 = ((rk R 0 j : Nat) : Int) := by
  simp [rkL, List.getElem?_map, List.getElem?_range (show j < R.length + 1 by omega)]
theorem rkL_len (R : List Nat) : (rkL R).length = R.length + 1 := by simp [rkL]
/-- Up to k both are added. -/
def Mixed (R S : List Nat) (n k : Nat) (Z : List Int) : Prop := Z.length = n + 1 ∧ ∀ j, j ≤ n → Z[j]?.getD 0 = ((if j < k then rk R 0 j else rk S 0 j : Nat) : Int)

set_option maxHeartbeats 4000000 in
set_option maxRecDepth 100000 in
theorem rooksByCell_c (n : Nat) (h1 : 1 ≤ n) (h5 : n ≤ 5) : ∀ (m : Nat) (R : List Nat), R.sum = m → R.length = n → (∀ x ∈ R, x < 32) → ∀ (ad : Addr) (c : Nat) (w : World), Row w (some ad) (ints (natI R)) →
    Calls Try.prog 25 #[.slice (some ad) n c] w (Owns 3 1 (n + 1) (ints (rkL R)) w) := by
  intro m
  induction m using Nat.strongRecOn with
  | ind m ih =>
    intro R hsum hRl hRs ad c w hr
    have HI := hide (fun w5 h5' => indexFunc_c (some ad) c R w5 h5' (by omega))
    rw [hRl] at HI
    obtain ⟨i0, hi0, hz0, hz1, hz2⟩ := made_of (P := Try.prog) (e := 3) (z := .int .i64 0) (size := 1) (bytes := 8) (by kernel_rfl)
    have IH := hide ih
    have HS := hide hRs
    have HM := hide hsum
    clear ih hRs hsum
    go_enter Try.func25, Try.ntmps25
    go_wp2_with fail
    refine (HI.out _ hr).mono ?_
    rintro e w1 ⟨i, rfl, hi, rfl⟩
    rcases hi with ⟨rfl, hz⟩ | ⟨j, rfl, hj, hpos, hbef⟩
    · have hl1 : Hid ((n : Int) + 1 = ((n + 1 : Nat) : Int)) := by show (n : Int) + 1 = ((n + 1 : Nat) : Int); omega
      have hres : Hid ((List.replicate (n + 1) (0 : Int)).set 0 1 = rkL R) := rkL_of (by rw [List.length_set, List.length_replicate, hRl]) fun j hj => by
        rw [rk_none R 0 j hz, set_at _ _ _ _ (by simp)]
        by_cases e : j = 0
        · simp [e]
        · rw [if_neg e, if_neg e, List.getElem?_replicate, if_pos (by omega)]
          rfl
      clear hz
      go_wp2_with ((at_make; refine wpList_make_full _ rfl (.tmp 15) (.tmp 15) 22 rfl w.heap.size 3 i0 (.int .i64 0) 1 Try.underlying22 hi0 hz0 hz1 .i64 .i64 _ _ (n + 1) rfl rfl hl1.out hl1.out (by rw [hz2]; omega) (by simp [maxLen]; omega) (Nat.le_refl _) ?_
                    intro w3 own3 hg3
                    have own3 := made_own rfl own3
                    have b3 := (Below.refl w.heap.size w).grown hg3 (Nat.le_refl _) (fun k h => by cases h)
                    have hc3 := own3.cellAt 0 (by omega)
                    rw [List.getElem?_replicate, if_pos (by omega)] at hc3
                    have hf3 := own3.frozenAt 0
                    obtain ⟨ost, gst⟩ := own3.stored 0 (.int .i64 1)
                    have bst := b3.grown gst b3.size (fun n e => by injection e with e; omega)
                    have Ost := hide ost
                    have Bst := hide bst
                    clear ost gst bst own3 hg3))
      go_ret
      refine ⟨_, rfl, ?_, Bst.out⟩
      rw [← hres.out]
      have := Ost.out
      rwa [show List.replicate (n + 1) (Value.int .i64 0) = ints (List.replicate (n + 1) 0) by simp [ints], ints_set3] at this
    · have hx := small_at (by omega) HS.out j
      obtain ⟨e, he, hbit, hlow, hfirst⟩ := low_of hx hpos
      obtain ⟨q1, q2, q3⟩ := clr_lt ⟨R[j]?.getD 0, hx⟩ ⟨e, he⟩ hbit
      simp only at q1 q2 q3
      have hcs := hide (cell_sum (R := R) (i := j) (e := e) hj q1)
      have hls := hide (lines_sum (R := R) (i := j) (e := e) hj hpos)
      have hat := hide (fun k => rk_at HS.out hj he hbit k)
      have HC := hide (fun w5 h5' => withoutCell_c ad c j e R w5 h5' (by omega) hj he HS.out)
      have HL := hide (fun w5 h5' => withoutLines_c ad c j e R w5 h5' (by omega) hj he HS.out)
      rw [hRl] at HC HL hj
      have HIC := hide (fun ad' c' w5 h5' => IH.out _ (by rw [← HM.out]; exact hcs.out) (cellP R j e) rfl (by simp [cellP, hRl]) (cell_small HS.out j e) ad' c' w5 h5')
      have HIL := hide (fun ad' c' w5 h5' => IH.out _ (by rw [← HM.out]; exact hls.out) (linesP R j e) rfl (by simp [linesP, hRl]) (lines_small (by omega) HS.out j e) ad' c' w5 h5')
      have lenS : (cellP R j e).length = n := by simp [cellP, hRl]
      have lenT : (linesP R j e).length = n := by simp [linesP, hRl]
      have hbS := hide (fun k => show rk (cellP R j e) 0 k ≤ 7776 from Nat.le_trans (rk_bd _ _ _) (by rw [lenS]; exact Nat.le_trans (Nat.pow_le_pow_right (by omega) h5) (by decide)))
      have hbT := hide (fun k => show rk (linesP R j e) 0 k ≤ 7776 from Nat.le_trans (rk_bd _ _ _) (by rw [lenT]; exact Nat.le_trans (Nat.pow_le_pow_right (by omega) h5) (by decide)))
      obtain ⟨_, e0, hca⟩ := hr.int (k := j) (by simp [hRl]; exact hj)
      injection e0 with e0
      subst e0
      rw [natI_at] at hca
      generalize hS : cellP R j e = S at *
      generalize hT : linesP R j e = T at *
      generalize R[j]?.getD 0 = x at *
      have hpe := (pow_bd (n := e) (by omega)).2
      generalize hP : 2 ^ e = P at *
      clear hfirst hbef q1 q2 q3 hbit hS hT hP
      have j0 : (0 : Int) ≤ (j : Int) := by omega
      have j1 : (j : Int) < (n : Int) := by omega
      have en : IntKind.i64.wrap (-(x : Int)) = -(x : Int) := IntWalk.i64_in _ (by omega)
      go_wp2_with fail
      go_quiet (fail)
      all_goals go_wp2_with fail
      have bq : Below w.heap.size w (w.drewN nq) := below_drewN (Below.refl _ _) _
      clear hca HI
      generalize w.drewN nq = wq at *
      refine (HC.out _ (hr.below bq)).mono ?_
      rintro e1 w2 ⟨v2, rfl, o2, b2⟩
      obtain ⟨g2, c2, rfl, _⟩ := own_one o2 (by omega)
      have b2' := below_then bq bq.size b2
      go_wp2_with fail
      refine (HIC.out _ _ _ (own_reads o2)).mono ?_
      rintro e1 w3 ⟨v3, rfl, o3, b3⟩
      obtain ⟨g3, c3, rfl, _, _, _, g31, g32⟩ := own_one o3 (by omega)
      have z2 := b2'.size
      have b3' := below_then b2' b2'.size b3
      clear o2 b2 b3 b2'
      go_wp2_with fail
      refine (HL.out _ (hr.below b3')).mono ?_
      rintro e1 w4 ⟨v4, rfl, o4, b4⟩
      obtain ⟨g4, c4, rfl, _⟩ := own_one o4 (by omega)
      have o3b := own_below o3 b4
      have b4' := below_then b3' b3'.size b4
      have z4 := b4.size
      clear o3
      go_wp2_with fail
      refine (HIL.out _ _ _ (own_reads o4)).mono ?_
      rintro e1 w5 ⟨v5, rfl, o5, b5⟩
      obtain ⟨g5, c5, rfl, _, _, _, g51, g52⟩ := own_one o5 (by omega)
      have o3c := own_below o3b b5
      have b5' := below_then b4' b4'.size b5
      have hgg : g5 ≠ g3 := by omega
      have o3d : w5.ownsRow w.heap.size 3 1 (.slice (some ⟨g3, 0, none⟩) (n + 1) c3) (n + 1) (ints (rkL S)) := own_mono o3c (by omega)
      have hZ0 : Hid (Mixed R S n 1 (rkL S)) := ⟨by rw [rkL_len, lenS], fun j hj => by
        rw [rkL_at (by omega)]
        by_cases e : j < 1
        · have : j = 0 := by omega
          subst this
          simp [rk_zero]
        · rw [if_neg e]⟩
      have hTv := hide (fun j (hj : j ≤ n) => show (rkL T)[j]?.getD 0 = ((rk T 0 j : Nat) : Int) from rkL_at (by omega))
      have hTl := hide (show (rkL T).length = n + 1 by rw [rkL_len, lenT])
      have hres := hide (fun (Z : List Int) (h : Mixed R S n (n + 1) Z) => show Z = rkL R from rkL_of (by rw [h.1, hRl]) (fun j hj => by rw [h.2 j (by omega), if_pos (by omega)]))
      generalize rkL S = Z0 at *
      generalize rkL T = ZT at *
      generalize rkL R = res at *
      clear o4 b4 b4' b5 o3b o3c b3' HC HL HIC HIL IH HS
      go_wp2_with fail
      go_loopw [8] (fun i wr => ∃ (k : Nat) (Z : List Int), 1 ≤ k ∧ k ≤ n + 1 ∧ i = .int .i64 (k : Int) ∧ Hid (Mixed R S n k Z) ∧ wr.ownsRow w.heap.size 3 1 (.slice (some ⟨g3, 0, none⟩) (n + 1) c3) (n + 1) (ints Z) ∧ wr.ownsRow w4.heap.size 3 1 (.slice (some ⟨g5, 0, none⟩) (n + 1) c5) (n + 1) (ints ZT) ∧ Below w.heap.size w wr) (fun i _ => n + 1 - (intOf i).toNat)
      case atStart => exact ⟨1, Z0, Nat.le_refl _, by omega, rfl, hZ0, o3d, o5, b5'⟩
      case round =>
        clear o3d o5 hZ0 b5'
        obtain ⟨k, Z, k1, k2, rfl, hZ, oz, ot, hb⟩ := hrel
        obtain ⟨wi, rfl⟩ : ∃ wi : World, wi = wr := ⟨_, rfl⟩
        by_cases hlt : k < n + 1
        · obtain ⟨K, rfl⟩ : ∃ K, k = K + 1 := ⟨k - 1, by omega⟩
          have hsum := hide (hat.out K)
          have hck := oz.cellAt (K + 1) (by omega)
          rw [at_ints (by rw [hZ.out.1]; omega), hZ.out.2 (K + 1) (by omega), if_neg (by omega)] at hck
          have hfk := oz.frozenAt (K + 1)
          have hct := ot.cellAt K (by omega)
          rw [at_ints (by rw [hTl.out]; omega), hTv.out K (by omega)] at hct
          have by1 := hbS.out (K + 1)
          have bz1 := hbT.out K
          obtain ⟨Y, hY⟩ : ∃ Y, rk S 0 (K + 1) = Y := ⟨_, rfl⟩
          obtain ⟨V, hV⟩ : ∃ V, rk T 0 K = V := ⟨_, rfl⟩
          rw [hY] at hck by1 hsum
          rw [hV] at hct bz1 hsum
          have HY := hide hY
          clear hY hV
          obtain ⟨J, hJ⟩ : ∃ J : Nat, K + 1 = J := ⟨_, rfl⟩
          rw [hJ] at hck hfk hsum HY hlt k1 k2 hZ ⊢
          have HJ := hide hJ
          have e1 : IntKind.i64.wrap ((J : Int) - 1) = (K : Int) := (IntWalk.i64_in _ (by omega)).trans (by omega)
          have j0 : (0 : Int) ≤ (J : Int) := by omega
          have j1 : (J : Int) < ((n + 1 : Nat) : Int) := by omega
          have j1' : (J : Int) < (n : Int) + 1 := by omega
          have j2 : (0 : Int) ≤ (K : Int) := by omega
          have j3 : (K : Int) < ((n + 1 : Nat) : Int) := by omega
          have j3' : (K : Int) < (n : Int) + 1 := by omega
          have e2 : IntKind.i64.wrap ((Y : Int) + (V : Int)) = (Y : Int) + (V : Int) := IntWalk.i64_in _ (by omega)
          have hJ5 : J ≤ 5 := by omega
          clear hJ
          go_wp2_with fail
          go_still_tail 11, (by kernel_rfl)
          have ozd := oz.drew
          have otd := ot.drew
          have hbd' := hb.drew
          have hfyd : wi.drew.frozen? ⟨g3, J, none⟩ = false := hfk
          have hcyd : wi.drew.cell? ⟨g3, J, none⟩ = some (.int .i64 (Y : Int)) := hck
          change wpList _ _ _ _ _ wi.drew
          clear oz ot hb hfk hck hct
          generalize wi.drew = wd at *
          obtain ⟨ost, gst⟩ := ozd.stored J (.int .i64 ((Y : Int) + (V : Int)))
          rw [ints_set3] at ost
          have otx := own_free2 otd gst (fun e => hgg (by injection (show some g5 = some g3 from e)))
          have hbx := hbd'.grown gst hbd'.size (fun j e => by injection e with e; omega)
          have Ost := hide ost
          have Otx := hide otx
          have Hbx := hide hbx
          have hZ' : Hid (Mixed R S n (J + 1) (Z.set J ((Y : Int) + (V : Int)))) := ⟨by rw [List.length_set]; exact hZ.out.1, fun j hj => by
            rw [set_at _ _ _ _ (by rw [hZ.out.1]; exact hlt)]
            by_cases e : j = J
            · rw [if_pos e, if_pos (by omega), e, hsum.out]
              push_cast
              rfl
            · rw [if_neg e, hZ.out.2 j hj]
              have : (j < J) = (j < J + 1) := by apply propext; omega
              simp only [this]⟩
          clear ost gst otx hbx
          go_wp2_with fail
          exact ⟨⟨J + 1, Z.set J ((Y : Int) + (V : Int)), by omega, by omega, rfl, hZ'.out, Ost.out, Otx.out, Hbx.out⟩, by simp [intOf]; omega⟩
        · obtain rfl : k = n + 1 := by omega
          have hZR := hres.out Z hZ.out
          subst hZR
          go_wp2_with fail
          go_ret
          exact ⟨_, rfl, oz, hb⟩
end Go.Proofs.Ytlccohoblplddaa
