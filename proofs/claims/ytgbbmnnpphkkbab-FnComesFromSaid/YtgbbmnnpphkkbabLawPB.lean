
/-
  The walk of the law FnComesFrom.
-/
import Derived.Test.YtgbbmnnpphkkbabPPegF
import Derived.Test.YtgbbmnnpphkkbabPPegG
import Derived.Test.YtgbbmnnpphkkbabDrawP
import Derived.Test.YtgbbmnnpphkkbabLawPW
namespace Go.Proofs.Ytgbbmnnpphkkbab
open Go.RowKit
set_option linter.unusedVariables false

theorem clsI_natB {w h x : Nat} (hw : 1 ≤ w ∧ w ≤ 5) (hh : 1 ≤ h ∧ h ≤ 5) (h12 : w * h ≤ 12) (hx : x < 2 ^ (w * h)) : clsI w h x = natI (clsL w (w * h) x) := if_pos (pegS_of hw hh h12 hx)
theorem comes_clsL {w n s x : Nat} (hw : 1 ≤ w ∧ w ≤ 5) (hn : n ≤ 12) (h : Comes w n s x) : clsL w n x = clsL w n s := by
  unfold clsL
  rw [comes_cls hw hn (by omega) h, comes_cls hw hn (by omega) h, comes_cls hw hn (by omega) h, comes_cls hw hn (by omega) h]
theorem asc_up {L : List Nat} (hL : L.Nodup) : ∀ i, i + 1 < (ascP (natI L)).length → (ascP (natI L))[i]?.getD 0 < (ascP (natI L))[i + 1]?.getD 0 := by
  obtain ⟨h1, h2⟩ := asc_fold (natI L) [] List.Pairwise.nil
  rw [List.append_nil] at h2
  change (ascP (natI L)).Pairwise (· ≤ ·) at h1
  change (ascP (natI L)).Perm (natI L) at h2
  have hnd : (natI L).Nodup := by
    unfold natI
    refine List.pairwise_map.2 (List.Pairwise.imp (fun hne e => hne ?_) hL)
    exact Int.ofNat.inj e
  have hnd2 : (ascP (natI L)).Nodup := h2.nodup_iff.2 hnd
  intro i hi
  have hi0 : i < (ascP (natI L)).length := by omega
  have a1 := List.pairwise_iff_getElem.1 h1 i (i + 1) hi0 hi (by omega)
  have a2 := List.pairwise_iff_getElem.1 hnd2 i (i + 1) hi0 hi (by omega)
  rw [List.getElem?_eq_getElem hi0, List.getElem?_eq_getElem hi]
  simp only [Option.getD_some]
  omega
set_option maxHeartbeats 4000000 in
set_option maxRecDepth 100000 in
theorem comesFrom_w (A : Option Addr) (n c : Nat) (w : World) (h : Code w A n c) : Calls Try.prog 6 #[.slice A n c] w (Plain (.bool true) w) := by
  by_cases hl : 1048576 < (n : Int)
  · go_enter Try.func6, Try.ntmps6
    go_wp2
    go_ret
    exact ⟨rfl, Below.refl _ _⟩
  · have HC := hide (drawComesFrom_c A n c w h)
    clear h
    have HI := hide (fun bc br x w5 => implComesFrom_c bc br x w5)
    have HS := hide (fun bc br x w5 => specComesFrom_c bc br x w5)
    have HK := hide (fun bc br x w5 => implClassOf_c bc br x w5)
    go_enter Try.func6, Try.ntmps6
    go_wp2_with fail
    refine HC.out.mono ?_
    rintro e w1 ⟨bc, br, x, rfl, -, -, -, b1⟩
    have HI1 := hide (fun w5 => HI.out bc br x w5)
    have HS1 := hide (fun w5 => HS.out bc br x w5)
    by_cases hP : PegS bc br x
    · obtain ⟨W, H, x, rfl, rfl, rfl, hw, hh, h12, hx⟩ := pegS_nat hP
      obtain ⟨M, hM, hMl, hMm⟩ := asc_nat (comeL W (W * H) x)
      have hMc : ∀ y, y ∈ M ↔ Comes W (W * H) x y := fun y => (hMm y).trans (come_mem hw.1 hx)
      have hx0 : x ∈ M := (hMc x).2 .self
      have hM0 : 0 < M.length := List.length_pos_of_mem hx0
      have hM4 : M.length ≤ 4096 := by rw [hMl]; exact Nat.le_trans (come_len hw.1 hx) (pow12 h12).2
      have hup := asc_up (come_nodup hw.1 hx)
      rw [hM] at hup
      have HK0 := hide (fun w5 => show Calls Try.prog _ #[.int .i64 (W : Int), .int .i64 (H : Int), .int .i64 (x : Int)] w5 (Owns 3 1 4 (ints (natI (clsL W (W * H) x))) w5) by
        have := HK.out (W : Int) (H : Int) (x : Int) w5
        rwa [clsI_natB hw hh h12 hx] at this)
      have HKK := hide (fun k (hk : k < M.length) w5 => show Calls Try.prog _ #[.int .i64 (W : Int), .int .i64 (H : Int), .int .i64 ((M[k]?.getD 0 : Nat) : Int)] w5 (Owns 3 1 4 (ints (natI (clsL W (W * H) x))) w5) by
        have hy : Comes W (W * H) x (M[k]?.getD 0) := (hMc _).1 (by rw [List.getElem?_eq_getElem hk]; exact List.getElem_mem _)
        have := HK.out (W : Int) (H : Int) ((M[k]?.getD 0 : Nat) : Int) w5
        rwa [clsI_natB hw hh h12 (comes_lt hw.1 hx hy), comes_clsL hw h12 hy] at this)
      have HB0 := hide (fun w5 => show Calls Try.prog _ #[.int .i64 (x : Int)] w5 fun e w' => e = .returned (.int .i64 ((cntB x (W * H) : Nat) : Int)) ∧ w5 = w' by
        have := bitsOfP_c x (peg_lt h12 hx) w5
        rwa [pc_cnt h12 hx] at this)
      have HBK := hide (fun k (hk : k < M.length) w5 => show Calls Try.prog _ #[.int .i64 ((M[k]?.getD 0 : Nat) : Int)] w5 fun e w' => e = .returned (.int .i64 ((cntB (M[k]?.getD 0) (W * H) : Nat) : Int)) ∧ w5 = w' by
        have hy : Comes W (W * H) x (M[k]?.getD 0) := (hMc _).1 (by rw [List.getElem?_eq_getElem hk]; exact List.getElem_mem _)
        have hy2 := comes_lt hw.1 hx hy
        have := bitsOfP_c (M[k]?.getD 0) (peg_lt h12 hy2) w5
        rwa [pc_cnt h12 hy2] at this)
      have HCN := hide (fun k (hk : k < M.length) => show M[k]?.getD 0 = x ∨ cntB (M[k]?.getD 0) (W * H) < cntB x (W * H) from
        comes_cnt hw.1 ((hMc _).1 (by rw [List.getElem?_eq_getElem hk]; exact List.getElem_mem _)))
      have HIN := hide (show decide ((x : Int) ∈ natI M) = true from decide_eq_true (List.mem_map.2 ⟨x, hx0, rfl⟩))
      have HUP := hide hup
      have hlM := natI_len M
      have HLM := hide hlM
      rw [comesV_nat hw hh h12 hx, hM, hlM] at HI1 HS1
      have hcl : (natI (clsL W (W * H) x)).length = 4 := rfl
      have HCL := hide hcl
      clear hP hw hh hx hM hMl hMm hMc hx0 hup HI HS HK h12 hlM hcl
      generalize clsL W (W * H) x = C at *
      generalize W * H = m at *
      have hz0 : ((M.length : Int) == 0) = false := by rw [beq_eq_false_iff_ne]; omega
      go_wp2_with fail
      refine (HI1.out _).mono ?_
      rintro e w2 ⟨v2, rfl, o2, b2⟩
      obtain ⟨g2, c2, rfl, _, _⟩ := own_addrP o2 hM0
      have b12 := below_then b1 b1.size b2
      go_wp2_with fail
      refine (HS1.out _).mono ?_
      rintro e w3 ⟨v3, rfl, o3, b3⟩
      obtain ⟨g3, c3, rfl, _, _⟩ := own_addrP o3 hM0
      have o2 := own_below o2 b3
      have b13 := below_then b12 b12.size b3
      go_wp2_with fail
      refine (equalIntsP_t _ _ _ _ _ _ _ _ _ HLM.out HLM.out (own_reads o2) (own_reads o3) (by rw [HLM.out]; omega) rfl).mono ?_
      rintro e w4 ⟨rfl, b4⟩
      have o2 := own_below o2 b4
      have b14 := below_then b13 b13.size b4
      clear o3
      go_wp2_with fail
      refine (HK0.out _).mono ?_
      rintro e w7 ⟨v7, rfl, o7, b7⟩
      obtain ⟨g7, c7, rfl, _, _⟩ := own_addrP o7 (by omega)
      have o2 := own_below o2 b7
      have b17 := below_then b14 b14.size b7
      have R2 := hide (own_reads o2)
      have R7 := hide (own_reads o7)
      clear o2 o7 b12 b13 b14 b2 b3 b4 hz0
      go_wp2_with fail
      go_loopw [8] (fun i wr => ∃ k : Nat, k ≤ M.length ∧ i = .int .i64 (k : Int) ∧ Below w7.heap.size w7 wr) (fun i _ => M.length - (intOf i).toNat)
      case atStart => exact ⟨0, Nat.zero_le _, rfl, Below.refl _ _⟩
      case round =>
        obtain ⟨k, hk, rfl, hb⟩ := hrel
        obtain ⟨wo, rfl⟩ : ∃ wo : World, wo = wr := ⟨_, rfl⟩
        by_cases hlt : k < M.length
        · obtain ⟨a2, e2, q2⟩ := (R2.out.below hb).int (k := k) (by rw [HLM.out]; exact hlt)
          injection e2 with e2
          subst e2
          rw [natI_at, add0P] at q2
          have HK1 := hide (HKK.out k hlt)
          have HB1 := hide (HBK.out k hlt)
          have hcn := HCN.out k hlt
          have hbl : g2 < wo.heap.size := World.block_lt_of_cell? _ _ q2
          generalize M[k]?.getD 0 = y at *
          have k0 : (0 : Int) ≤ (k : Int) := by omega
          have k1 : (k : Int) < (M.length : Int) := by omega
          have Q2 := hide q2
          go_wp2_with fail
          refine (HK1.out _).mono ?_
          rintro e w8 ⟨v8, rfl, o8, b8⟩
          obtain ⟨g8, c8, rfl, _, _⟩ := own_addrP o8 (by omega)
          have hb8 := below_then hb hb.size b8
          have q8 := (b8.cell (p := ⟨g2, k, none⟩) hbl).trans Q2.out
          have r8 := own_reads o8
          clear o8 q2
          go_wp2_with fail
          refine (equalIntsP_t _ _ _ _ _ _ _ _ _ HCL.out HCL.out r8 (R7.out.below hb8) (by rw [HCL.out]; omega) rfl).mono ?_
          rintro e w9 ⟨rfl, b9⟩
          have hb9 := below_then hb8 hb8.size b9
          have q9 := (b9.cell (World.block_lt_of_cell? _ _ q8)).trans q8
          clear q8 r8 b8 b9 hb8
          rcases hcn with e | hcn
          · subst e
            have hyx : ((y : Int) != (y : Int)) = false := by simp
            generalize cntB y m = cy at *
            have hcc : ¬ ((cy : Int) < (cy : Int)) := by omega
            go_wp2_with fail
            refine (HB1.out _).mono ?_
            rintro e w10 ⟨rfl, rfl⟩
            go_wp2_with fail
            refine (HB0.out _).mono ?_
            rintro e w11 ⟨rfl, rfl⟩
            go_wp2_with fail
            exact ⟨⟨k + 1, hlt, by go_num, hb9⟩, by simp [intOf]; omega⟩
          · have hne : y ≠ x := fun e => by subst e; omega
            have hyx : ((y : Int) != (x : Int)) = true := by simp only [bne_iff_ne]; omega
            generalize cntB y m = cy at *
            generalize cntB x m = cx at *
            have hcc : ¬ ((cx : Int) < (cy : Int)) := by omega
            have hce : ((cy : Int) == (cx : Int)) = false := by rw [beq_eq_false_iff_ne]; omega
            clear hne
            go_wp2_with fail
            refine (HB1.out _).mono ?_
            rintro e w10 ⟨rfl, rfl⟩
            go_wp2_with fail
            refine (HB0.out _).mono ?_
            rintro e w11 ⟨rfl, rfl⟩
            go_wp2_with fail
            refine (HB1.out _).mono ?_
            rintro e w10 ⟨rfl, rfl⟩
            go_wp2_with fail
            refine (HB0.out _).mono ?_
            rintro e w11 ⟨rfl, rfl⟩
            go_wp2_with fail
            exact ⟨⟨k + 1, hlt, by go_num, hb9⟩, by simp [intOf]; omega⟩
        · obtain rfl : k = M.length := by omega
          have HAS := hide (fun w6 (r6 : Row w6 (some ⟨g2, 0, none⟩) (ints (natI M))) => ascendsP_t (some ⟨g2, 0, none⟩) (natI M) c2 w6 r6 (by rw [HLM.out]; omega) HUP)
          rw [HLM.out] at HAS
          go_wp2_with fail
          refine (isInP_c _ _ (natI M) _ _ _ HLM.out (R2.out.below hb) (by rw [HLM.out]; omega)).mono ?_
          rw [HIN.out]
          rintro e w8 ⟨rfl, b8⟩
          have hb8 := below_then hb hb.size b8
          go_wp2_with fail
          refine (HAS.out _ (R2.out.below hb8)).mono ?_
          rintro e w9 ⟨rfl, b9⟩
          have hb9 := below_then hb8 hb8.size b9
          go_wp2_with fail
          go_ret
          exact ⟨rfl, below_then b17 b17.size hb9⟩
    · have hc : comesV bc br x = [] := by unfold comesV; rw [if_neg hP]
      rw [hc] at HI1 HS1
      clear hc hP HI HS HK
      go_wp2_with fail
      refine (HI1.out _).mono ?_
      rintro e w2 ⟨v2, rfl, o2, b2⟩
      obtain ⟨A2, c2, rfl, _⟩ := own_row o2
      have b12 := below_then b1 b1.size b2
      go_wp2_with fail
      refine (HS1.out _).mono ?_
      rintro e w3 ⟨v3, rfl, o3, b3⟩
      obtain ⟨A3, c3, rfl, _⟩ := own_row o3
      have b13 := below_then b12 b12.size b3
      go_wp2_with fail
      refine (equalIntsP_t _ _ _ _ _ _ [] [] _ rfl rfl (Row.empty _ _) (Row.empty _ _) (by simp) rfl).mono ?_
      rintro e w4 ⟨rfl, b4⟩
      have b14 := below_then b13 b13.size b4
      go_wp2_with fail
      refine (HS1.out _).mono ?_
      rintro e w5 ⟨v5, rfl, o5, b5⟩
      obtain ⟨A5, c5, rfl, _⟩ := own_row o5
      have b15 := below_then b14 b14.size b5
      go_wp2_with fail
      refine (equalIntsP_t _ _ _ _ _ _ [] [] _ rfl rfl (Row.empty _ _) (Row.empty _ _) (by simp) rfl).mono ?_
      rintro e w6 ⟨rfl, b6⟩
      have b16 := below_then b15 b15.size b6
      go_wp2_with fail
      go_ret
      exact ⟨rfl, b16⟩
end Go.Proofs.Ytgbbmnnpphkkbab
