
/-
  The walks of the laws FnFewestLeft, FnFullPegs.
-/
import Derived.Test.YtgbbmnnpphkkbacPPegF
import Derived.Test.YtgbbmnnpphkkbacPPegH
import Derived.Test.YtgbbmnnpphkkbacDrawP
import Derived.Test.YtgbbmnnpphkkbacLawPW
namespace Go.Proofs.Ytgbbmnnpphkkbac
open Go.RowKit
set_option linter.unusedVariables false

/-- JumpsOf, of which the law asks how many there are alone. -/
def RowsN (k : Nat) (w : World) (e : Ending) (w' : World) : Prop := ∃ A c, e = .returned (.slice A k c) ∧ Below w.heap.size w w'
theorem Rowset.many {D : Nat} {L : List (List Int)} {w : World} {e : Ending} {w' : World} (h : Rowset D L w e w') : RowsN L.length w e w' := by
  obtain ⟨v, vs, rfl, o, rs, _, b⟩ := h
  obtain ⟨A, c, rfl, _⟩ := own_row o
  rw [rs.1]
  exact ⟨A, c, rfl, b⟩
set_option maxHeartbeats 4000000 in
set_option maxRecDepth 100000 in
theorem fewestLeft_w (A : Option Addr) (n c : Nat) (w : World) (h : Code w A n c) : Calls Try.prog 3 #[.slice A n c] w (Plain (.bool true) w) := by
  by_cases hl : 1048576 < (n : Int)
  · go_enter Try.func3, Try.ntmps3
    go_wp2
    go_ret
    exact ⟨rfl, Below.refl _ _⟩
  · have HC := hide (drawFewestLeft_c A n c w h)
    clear h
    have HI := hide (fun bc br x w5 => implFewestLeft_c bc br x w5)
    have HS := hide (fun bc br x w5 => specFewestLeft_c bc br x w5)
    have HK := hide (fun bc br x w5 => implComesFrom_c bc br x w5)
    have HJ := hide (fun bc br x w5 => (implJumpsOf_c bc br x w5).mono fun _ _ h => h.many)
    go_enter Try.func3, Try.ntmps3
    go_wp2_with fail
    refine HC.out.mono ?_
    rintro e w1 ⟨bc, br, x, rfl, -, -, -, b1⟩
    have HI1 := hide (fun w5 => HI.out bc br x w5)
    have HS1 := hide (fun w5 => HS.out bc br x w5)
    by_cases hP : PegS bc br x
    · obtain ⟨W, H, x, rfl, rfl, rfl, hw, hh, h12, hx⟩ := pegS_nat hP
      obtain ⟨M, hM, hMl, hMm⟩ := asc_nat (comeL W (W * H) x)
      have hMc : ∀ y, y ∈ M ↔ Comes W (W * H) x y := fun y => (hMm y).trans (come_mem hw.1 hx)
      have hx0 : x ∈ M := (hMc x).2 .self
      have hM4 : M.length ≤ 4096 := by rw [hMl]; exact Nat.le_trans (come_len hw.1 hx) (pow12 h12).2
      have HK1 := hide (fun w5 => HK.out (W : Int) (H : Int) (x : Int) w5)
      have HJ1 := hide (fun w5 => HJ.out (W : Int) (H : Int) (x : Int) w5)
      have HB0 := hide (fun w5 => show Calls Try.prog _ #[.int .i64 (x : Int)] w5 fun e w' => e = .returned (.int .i64 ((cntB x (W * H) : Nat) : Int)) ∧ w5 = w' by
        have := bitsOfP_c x (peg_lt h12 hx) w5
        rwa [pc_cnt h12 hx] at this)
      have HBK := hide (fun k (hk : k < M.length) w5 => show Calls Try.prog _ #[.int .i64 ((M[k]?.getD 0 : Nat) : Int)] w5 fun e w' => e = .returned (.int .i64 ((cntB (M[k]?.getD 0) (W * H) : Nat) : Int)) ∧ w5 = w' by
        have hy : Comes W (W * H) x (M[k]?.getD 0) := (hMc _).1 (by rw [List.getElem?_eq_getElem hk]; exact List.getElem_mem _)
        have hy2 := comes_lt hw.1 hx hy
        have := bitsOfP_c (M[k]?.getD 0) (peg_lt h12 hy2) w5
        rwa [pc_cnt h12 hy2] at this)
      have hfew : lstTo (W * H) M (cntB x (W * H)) M.length = fewL W (W * H) x := few_any hw.1 hx hMc ⟨x, hx0, rfl⟩
      have hnone := few_none hw.1 hx
      have HC12 := hide (fun y => Nat.le_trans (cnt_le y (W * H)) h12)
      have hlM := natI_len M
      have HLM := hide hlM
      rw [comesV_nat hw hh h12 hx, hM, hlM] at HK1
      rw [jumpV_nat hw hh h12 hx, jumpI_len] at HJ1
      rw [fewV_nat hw hh h12 hx, ← hfew] at HI1 HS1
      rw [← hfew, ← List.length_eq_zero_iff] at hnone
      have hJl := jump_len (w := W) x h12
      have hM0 : 0 < M.length := List.length_pos_of_mem hx0
      clear hP hw hh hx hM hMl hMm hMc hx0 HI HS HK HJ h12 hlM hfew
      generalize (jumpL W (W * H) x).length = jl at *
      generalize W * H = m at *
      have hb12 := HC12.out x
      generalize cntB x m = b at *
      have hle := lst_most (n := m) (L := M) (b := b) M.length
      obtain ⟨V, hV⟩ : ∃ V, lstTo m M b M.length = V := ⟨_, rfl⟩
      rw [hV] at HI1 HS1 hnone hle
      have HVV := hide hV
      have hv1 : ((V : Int) != (V : Int)) = false := by simp
      have hv2 : ¬ ((V : Int) < 0) := by omega
      have hv3 : ((V : Int) == (V : Int)) = true := by simp
      clear hV
      go_wp2_with fail
      refine (HI1.out _).mono ?_
      rintro e w2 ⟨rfl, b2⟩
      have b12 := below_then b1 b1.size b2
      go_wp2_with fail
      refine (HS1.out _).mono ?_
      rintro e w3 ⟨rfl, b3⟩
      have b13 := below_then b12 b12.size b3
      clear b12 b2 b3
      go_wp2_with fail
      refine (HK1.out _).mono ?_
      rintro e w4 ⟨v4, rfl, o4, b4⟩
      obtain ⟨g4, c4, rfl, _, _⟩ := own_addrP o4 hM0
      have b14 := below_then b13 b13.size b4
      have R4 := hide (own_reads o4)
      clear o4 b13 b4
      go_wp2_with fail
      refine (HB0.out _).mono ?_
      rintro e w5 ⟨rfl, rfl⟩
      go_wp2_with fail
      go_loopw [8, 9] (fun a i wr => ∃ k : Nat, k ≤ M.length ∧ i = .int .i64 (k : Int) ∧ a = .int .i64 ((lstTo m M b k : Nat) : Int) ∧ w4 = wr) (fun _ i _ => M.length - (intOf i).toNat)
      case atStart => exact ⟨0, Nat.zero_le _, rfl, rfl, rfl⟩
      case round =>
        obtain ⟨k, hk, rfl, rfl, rfl⟩ := hrel
        have hbk := lst_most (n := m) (L := M) (b := b) k
        by_cases hlt : k < M.length
        · obtain ⟨ad', e', hck⟩ := R4.out.int (k := k) (by rw [HLM.out]; exact hlt)
          injection e' with e'
          subst e'
          rw [natI_at, add0P] at hck
          have HEk := hide (fun w5 => HBK.out k hlt w5)
          have hS := hide (show lstTo m M b (k + 1) = min (lstTo m M b k) (cntB (M[k]?.getD 0) m) from rfl)
          have hc := HC12.out (M[k]?.getD 0)
          have k0 : (0 : Int) ≤ (k : Int) := by omega
          have k1 : (k : Int) < (M.length : Int) := by omega
          generalize M[k]?.getD 0 = y at *
          generalize cntB y m = c at *
          generalize lstTo m M b k = a at *
          rcases Nat.le_total a c with hac | hac
          · have hac' : (a : Int) ≤ (c : Int) := by omega
            have HS := hide (hS.out.trans (Nat.min_eq_left hac))
            clear hS
            go_wp2_with fail
            refine (HEk.out _).mono ?_
            rintro e w3 ⟨rfl, rfl⟩
            go_wp2_with fail
            all_goals exact ⟨⟨k + 1, hlt, by go_num, by rw [HS.out]; first | rfl | (congr 1; omega) | (exact congrArg (Value.int .i64) (by omega)), trivial⟩, by simp [intOf]; omega⟩
          · have hac' : (c : Int) ≤ (a : Int) := by omega
            have HS := hide (hS.out.trans (Nat.min_eq_right hac))
            clear hS
            go_wp2_with fail
            refine (HEk.out _).mono ?_
            rintro e w3 ⟨rfl, rfl⟩
            go_wp2_with fail
            all_goals exact ⟨⟨k + 1, hlt, by go_num, by rw [HS.out]; first | rfl | (congr 1; omega) | (exact congrArg (Value.int .i64) (by omega)), trivial⟩, by simp [intOf]; omega⟩
        · obtain rfl : k = M.length := by omega
          rw [HVV.out]
          by_cases hj : jl = 0
          · have hvb : ((V : Int) == (b : Int)) = true := by rw [beq_iff_eq]; have := hnone.2 hj; omega
            have hj0 : ((jl : Int) == 0) = true := by rw [beq_iff_eq]; omega
            clear hnone hj
            go_wp2_with fail
            refine (HB0.out _).mono ?_
            rintro e w5 ⟨rfl, rfl⟩
            go_wp2_with fail
            refine (HJ1.out _).mono ?_
            rintro e w6 ⟨A6, c6, rfl, b6⟩
            go_wp2_with fail
            go_ret
            exact ⟨rfl, below_then b14 b14.size b6⟩
          · have hvb : ((V : Int) == (b : Int)) = false := by rw [beq_eq_false_iff_ne]; intro e; exact hj (hnone.1 (by omega))
            have hj0 : ((jl : Int) == 0) = false := by rw [beq_eq_false_iff_ne]; omega
            clear hnone
            go_wp2_with fail
            refine (HB0.out _).mono ?_
            rintro e w5 ⟨rfl, rfl⟩
            go_wp2_with fail
            refine (HJ1.out _).mono ?_
            rintro e w6 ⟨A6, c6, rfl, b6⟩
            go_wp2_with fail
            go_ret
            exact ⟨rfl, below_then b14 b14.size b6⟩
    · have hc : fewV bc br x = -1 := by unfold fewV; rw [if_neg hP]
      rw [hc] at HI1 HS1
      clear hc hP HI HS HK HJ
      go_wp2_with fail
      refine (HI1.out _).mono ?_
      rintro e w2 ⟨rfl, b2⟩
      have b12 := below_then b1 b1.size b2
      go_wp2_with fail
      refine (HS1.out _).mono ?_
      rintro e w3 ⟨rfl, b3⟩
      have b13 := below_then b12 b12.size b3
      go_wp2_with fail
      refine (HS1.out _).mono ?_
      rintro e w4 ⟨rfl, b4⟩
      have b14 := below_then b13 b13.size b4
      go_wp2_with fail
      go_ret
      exact ⟨rfl, b14⟩

set_option maxHeartbeats 4000000 in
set_option maxRecDepth 100000 in
theorem fullPegs_w (A : Option Addr) (n c : Nat) (w : World) (h : Code w A n c) : Calls Try.prog 6 #[.slice A n c] w (Plain (.bool true) w) := by
  by_cases hl : 1048576 < (n : Int)
  · go_enter Try.func6, Try.ntmps6
    go_wp2
    go_ret
    exact ⟨rfl, Below.refl _ _⟩
  · have HC := hide (drawFewestLeft_c A n c w h)
    clear h
    have HI := hide (fun bc br x w5 => implFewestLeft_c bc br x w5)
    have HS := hide (fun bc br x w5 => specFewestLeft_c bc br x w5)
    have HJ := hide (fun bc br x w5 => (implJumpsOf_c bc br x w5).mono fun _ _ h => h.many)
    go_enter Try.func6, Try.ntmps6
    go_wp2_with fail
    refine HC.out.mono ?_
    rintro e w1 ⟨bc, br, x, rfl, -, -, -, b1⟩
    have HI1 := hide (fun w5 => HI.out bc br x w5)
    have HS1 := hide (fun w5 => HS.out bc br x w5)
    by_cases hP : PegS bc br x
    · obtain ⟨W, H, x, rfl, rfl, rfl, hw, hh, h12, hx⟩ := pegS_nat hP
      have h0 : (0 : Nat) < 2 ^ (W * H) := Nat.two_pow_pos _
      have hf : 2 ^ (W * H) - 1 < 2 ^ (W * H) := by omega
      obtain ⟨j0, j1⟩ := jump_none W (W * H)
      have f0 : fewL W (W * H) 0 = 0 := by rw [(few_none hw.1 h0).2 j0]; exact cnt_none _
      have f1 : fewL W (W * H) (2 ^ (W * H) - 1) = W * H := by rw [(few_none hw.1 hf).2 j1]; exact cnt_full _ _ (Nat.le_refl _)
      have HI2 := hide (fun w5 => HI.out (W : Int) (H : Int) ((2 ^ (W * H) - 1 : Nat) : Int) w5)
      have HI3 := hide (fun w5 => show Calls Try.prog _ #[.int .i64 (W : Int), .int .i64 (H : Int), .int .i64 0] w5 (Plain (.int .i64 (fewV (W : Int) (H : Int) ((0 : Nat) : Int))) w5) from HI.out (W : Int) (H : Int) 0 w5)
      have HJ2 := hide (fun w5 => HJ.out (W : Int) (H : Int) ((2 ^ (W * H) - 1 : Nat) : Int) w5)
      have HJ3 := hide (fun w5 => show Calls Try.prog _ #[.int .i64 (W : Int), .int .i64 (H : Int), .int .i64 0] w5 (RowsN (jumpV (W : Int) (H : Int) ((0 : Nat) : Int)).length w5) from HJ.out (W : Int) (H : Int) 0 w5)
      rw [fewV_nat hw hh h12 hx] at HI1 HS1
      rw [fewV_nat hw hh h12 hf, f1] at HI2
      rw [fewV_nat hw hh h12 h0, f0] at HI3
      rw [jumpV_nat hw hh h12 hf, j1, show (jumpI []).length = 0 from rfl] at HJ2
      rw [jumpV_nat hw hh h12 h0, j0, show (jumpI []).length = 0 from rfl] at HJ3
      have HPW := hide (fun w5 => lawPowerP_c (W * H) h12 w5)
      have emul : IntKind.i64.wrap ((W : Int) * (H : Int)) = ((W * H : Nat) : Int) := by rw [Int.natCast_mul]; exact IntWalk.i64_in _ (by rw [← Int.natCast_mul]; omega)
      have hp := pow12 h12
      have hle : fewL W (W * H) x ≤ 12 := Nat.le_trans (few_le hw.1 hx .self) (Nat.le_trans (cnt_le x _) h12)
      obtain ⟨P, hPe⟩ : ∃ P, 2 ^ (W * H) = P := ⟨_, rfl⟩
      rw [hPe] at HI2 HJ2 HPW hp
      have eP : IntKind.i64.wrap ((P : Int) - 1) = ((P - 1 : Nat) : Int) := (IntWalk.i64_in _ (by omega)).trans (by omega)
      clear hP hw hh hx hPe HI HS HJ h0 hf j0 j1 f0 f1
      generalize fewL W (W * H) x = V at *
      generalize P - 1 = F at *
      generalize W * H = m at *
      have hv1 : ((V : Int) != (V : Int)) = false := by simp
      have hv2 : ¬ ((V : Int) < 0) := by omega
      have hmm : ((m : Int) == (m : Int)) = true := by simp
      clear hp
      go_wp2_with fail
      refine (HI1.out _).mono ?_
      rintro e w2 ⟨rfl, b2⟩
      have b12 := below_then b1 b1.size b2
      go_wp2_with fail
      refine (HS1.out _).mono ?_
      rintro e w3 ⟨rfl, b3⟩
      have b13 := below_then b12 b12.size b3
      go_wp2_with fail
      refine (HI1.out _).mono ?_
      rintro e w4 ⟨rfl, b4⟩
      have b14 := below_then b13 b13.size b4
      go_wp2_with fail
      refine (HPW.out _).mono ?_
      rintro e w5 ⟨rfl, rfl⟩
      go_wp2_with fail
      refine (HJ2.out _).mono ?_
      rintro e w6 ⟨A6, c6, rfl, b6⟩
      have b16 := below_then b14 b14.size b6
      go_wp2_with fail
      refine (HJ3.out _).mono ?_
      rintro e w7 ⟨A7, c7, rfl, b7⟩
      have b17 := below_then b16 b16.size b7
      go_wp2_with fail
      refine (HI2.out _).mono ?_
      rintro e w8 ⟨rfl, b8⟩
      have b18 := below_then b17 b17.size b8
      go_wp2_with fail
      refine (HI3.out _).mono ?_
      rintro e w9 ⟨rfl, b9⟩
      have b19 := below_then b18 b18.size b9
      go_wp2_with fail
      go_ret
      exact ⟨rfl, b19⟩
    · have hc : fewV bc br x = -1 := by unfold fewV; rw [if_neg hP]
      rw [hc] at HI1 HS1
      clear hc hP HI HS HJ
      go_wp2_with fail
      refine (HI1.out _).mono ?_
      rintro e w2 ⟨rfl, b2⟩
      have b12 := below_then b1 b1.size b2
      go_wp2_with fail
      refine (HS1.out _).mono ?_
      rintro e w3 ⟨rfl, b3⟩
      have b13 := below_then b12 b12.size b3
      go_wp2_with fail
      refine (HI1.out _).mono ?_
      rintro e w4 ⟨rfl, b4⟩
      have b14 := below_then b13 b13.size b4
      go_wp2_with fail
      go_ret
      exact ⟨rfl, b14⟩
end Go.Proofs.Ytgbbmnnpphkkbac
