
/-
  The walk of the law FnPegsFall.
-/
import Derived.Test.YtgbbmnnpphkkbacPPegF
import Derived.Test.YtgbbmnnpphkkbacPPegH
import Derived.Test.YtgbbmnnpphkkbacDrawP
import Derived.Test.YtgbbmnnpphkkbacLawPW
import Derived.StillTailTactics
namespace Go.Proofs.Ytgbbmnnpphkkbac
open Go.RowKit
set_option linter.unusedVariables false

/-- bitsOf, of whatever number that is drawn. -/
theorem bitsAny_c (s : Int) (h1 : -5000 ≤ s) (h2 : s ≤ 5000) (w : World) : Calls Try.prog 11 #[.int .i64 s] w fun e w' => (∃ r : Int, e = .returned (.int .i64 r) ∧ 0 ≤ r ∧ r ≤ 20) ∧ w = w' := by
  by_cases h0 : 0 < s
  · obtain ⟨s, rfl⟩ := Int.eq_ofNat_of_zero_le (show 0 ≤ s by omega)
    go_enter Try.func11, Try.ntmps11
    go_wp2_with fail
    go_loopw [0, 3] (fun a p wr => ∃ x m f : Nat, x < 2 ^ f ∧ x ≤ 5000 ∧ m + f ≤ 13 ∧ a = .int .i64 (x : Int) ∧ p = .int .i64 (m : Int) ∧ w = wr) (fun a _ _ => (intOf a).toNat)
    case atStart => exact ⟨s, 0, 13, by omega, by omega, by omega, rfl, rfl, rfl⟩
    case round =>
      obtain ⟨x, m, f, hxf, hx, hm12, rfl, rfl, rfl⟩ := hrel
      by_cases hp : 0 < x
      · obtain ⟨f, rfl⟩ : ∃ f', f = f' + 1 := ⟨f - 1, by
          rcases f with _ | f
          · simp at hxf; omega
          · rfl⟩
        have hxf' : x / 2 < 2 ^ f := by rw [Nat.pow_succ] at hxf; omega
        have hd : x / 2 < x := by omega
        have hr : x % 2 ≤ 1 := by omega
        have t1 : Int.tdiv (x : Int) 2 = ((x / 2 : Nat) : Int) := Int.tdiv_eq_ediv_of_nonneg (by omega)
        have t2 : Int.tmod (x : Int) 2 = ((x % 2 : Nat) : Int) := Int.tmod_eq_emod_of_nonneg (by omega)
        have hp' : (0 : Int) < (x : Int) := by omega
        generalize hQ : x / 2 = q at *
        generalize hR : x % 2 = r at *
        have e1 : IntKind.i64.wrap (q : Int) = (q : Int) := IntWalk.i64_in _ (by omega)
        have e2 : IntKind.i64.wrap (r : Int) = (r : Int) := IntWalk.i64_in _ (by omega)
        have e3 : IntKind.i64.wrap ((m : Int) + (r : Int)) = ((m + r : Nat) : Int) := (IntWalk.i64_in _ (by omega)).trans (by omega)
        have hqx : (q : Int) < (x : Int) := by omega
        have HXF := hide hxf'
        clear hQ hR hxf hxf'
        go_wp2_with fail
        exact ⟨⟨q, m + r, f, HXF.out, by omega, by omega, rfl, rfl, trivial⟩, by simp [intOf]; omega⟩
      · obtain rfl : x = 0 := by omega
        clear hxf
        go_wp2_with fail
        go_ret
        exact ⟨⟨(m : Int), rfl, by omega, by omega⟩, rfl⟩
  · go_enter Try.func11, Try.ntmps11
    go_wp2_with fail
    refine wp_loop_rounds 1 ?_
    rw [rounds_succ]
    go_wp2_with fail
    go_ret
    exact ⟨⟨0, rfl, by omega, by omega⟩, rfl⟩
theorem fall_ge2 {w n s : Nat} (hw : 1 ≤ w) (hs : s < 2 ^ n) {k : Nat} (hk : k < (jumpL w n s).length) : fewL w n s ≤ fewL w n (behindP s ((jumpL w n s)[k]?.getD (0, 0, 0))) := by
  rw [List.getElem?_eq_getElem hk]
  exact few_behind hw hs (List.getElem_mem _)
theorem fewL_le {w n s : Nat} (hw : 1 ≤ w) (hs : s < 2 ^ n) (hn : n ≤ 12) : fewL w n s ≤ 12 := Nat.le_trans (few_le hw hs .self) (Nat.le_trans (cnt_le s n) hn)
set_option maxHeartbeats 8000000 in
set_option maxRecDepth 100000 in
theorem pegsFall_w (A : Option Addr) (n c : Nat) (w : World) (h : Code w A n c) : Calls Try.prog 5 #[.slice A n c] w (Plain (.bool true) w) := by
  by_cases hl : 1048576 < (n : Int)
  · go_enter Try.func5, Try.ntmps5
    go_wp2
    go_ret
    exact ⟨rfl, Below.refl _ _⟩
  · have HC := hide (drawJumpsOf_c A n c w h)
    clear h
    have HI := hide (fun bc br x w5 => implJumpsOf_c bc br x w5)
    have HS := hide (fun bc br x w5 => specJumpsOf_c bc br x w5)
    have HF := hide (fun bc br x w5 => implFewestLeft_c bc br x w5)
    go_enter Try.func5, Try.ntmps5
    go_wp2_with fail
    refine HC.out.mono ?_
    rintro e w1 ⟨bc, br, x, rfl, -, -, hx5, b1⟩
    have HI1 := hide (fun w5 => HI.out bc br x w5)
    have HS1 := hide (fun w5 => HS.out bc br x w5)
    have HF1 := hide (fun w5 => HF.out bc br x w5)
    obtain ⟨hLl, hLx⟩ := jumpV_bd bc br x
    have HEQ := hide (fun A C vs us B B' ca cc w5 h1 h2 h3 h4 => equalRows_q A C vs us (jumpV bc br x) B B' ca cc w5 h1 h2 h3 h4 (by omega) (fun y hy => by rw [hLx y hy]; omega))
    by_cases hP : PegS bc br x
    · obtain ⟨W, H, x, rfl, rfl, rfl, hw, hh, h12, hx⟩ := pegS_nat hP
      have HB0 := hide (fun w5 => show Calls Try.prog 11 #[.int .i64 (x : Int)] w5 fun e w' => e = .returned (.int .i64 ((cntB x (W * H) : Nat) : Int)) ∧ w5 = w' by
        have := bitsOfP_c x (peg_lt h12 hx) w5
        rwa [pc_cnt h12 hx] at this)
      have HJI := hide (fun q (hq : q < (jumpL W (W * H) x).length) => show JumpIs W (W * H) x ((jumpL W (W * H) x)[q]?.getD (0, 0, 0)) by
        rw [List.getElem?_eq_getElem hq]
        exact jump_is hw.1 (List.getElem_mem hq))
      have HFQ := hide (fun q (hq : q < (jumpL W (W * H) x).length) w5 => show Calls Try.prog 8 #[.int .i64 (W : Int), .int .i64 (H : Int), .int .i64 ((behindP x ((jumpL W (W * H) x)[q]?.getD (0, 0, 0)) : Nat) : Int)] w5 (Plain (.int .i64 ((fewL W (W * H) (behindP x ((jumpL W (W * H) x)[q]?.getD (0, 0, 0))) : Nat) : Int)) w5) by
        have := HF.out (W : Int) (H : Int) ((behindP x ((jumpL W (W * H) x)[q]?.getD (0, 0, 0)) : Nat) : Int) w5
        rwa [fewV_nat hw hh h12 (behind_lt (HJI.out q hq) hx)] at this)
      have HGE := hide (fun q (hq : q < (jumpL W (W * H) x).length) => show fewL W (W * H) x ≤ fewL W (W * H) (behindP x ((jumpL W (W * H) x)[q]?.getD (0, 0, 0))) ∧ fewL W (W * H) (behindP x ((jumpL W (W * H) x)[q]?.getD (0, 0, 0))) ≤ 12 from
        ⟨fall_ge2 hw.1 hx hq, fewL_le hw.1 (behind_lt (HJI.out q hq) hx) h12⟩)
      have HFA := hide (fall_all hw.1 hx)
      have HFS := hide (fun q => show fallTo W (W * H) x (q + 1) = min (fallTo W (W * H) x q) (fewL W (W * H) (behindP x ((jumpL W (W * H) x)[q]?.getD (0, 0, 0)))) from rfl)
      have HF0 := hide (show fallTo W (W * H) x 0 = cntB x (W * H) from rfl)
      have HFL := hide (fun q => Nat.le_trans (fall_le (w := W) (n := W * H) (s := x) q).1 (Nat.le_trans (cnt_le x (W * H)) h12))
      have HPW := hide (fun q (hq : q ≤ 12) w5 => lawPowerP_c q hq w5)
      have hx4 := peg_lt h12 hx
      have hv12 := fewL_le hw.1 hx h12
      have hJv := jumpV_nat hw hh h12 hx
      rw [fewV_nat hw hh h12 hx] at HF1
      rw [hJv] at HI1 HS1 HEQ hLl hLx
      have hJl : (jumpI (jumpL W (W * H) x)).length = (jumpL W (W * H) x).length := jumpI_len _
      have HAT := hide (fun q (hq : q < (jumpL W (W * H) x).length) => show (jumpI (jumpL W (W * H) x))[q]? = some (rowJ ((jumpL W (W * H) x)[q]?.getD (0, 0, 0))) by
        unfold jumpI
        rw [List.getElem?_map, List.getElem?_eq_getElem hq]
        rfl)
      clear hP hh hx HI HS HF hJv hw hLx
      generalize jumpL W (W * H) x = J at *
      generalize hL : jumpI J = L at *
      have HJL := hide hJl
      have hjb : J.length ≤ 144 := by omega
      clear hL hJl
      have n12 : W * H ≤ 12 := h12
      generalize W * H = m at *
      go_wp2_with fail
      refine (HI1.out _).mono ?_
      rintro e w2 ⟨v2, vs2, rfl, own2, rs2, _, b2⟩
      have hl2 : vs2.length = L.length := rs2.1
      rw [hl2] at own2
      obtain ⟨A2, c2, rfl, _⟩ := own_row own2
      have b12 := below_then b1 b1.size b2
      go_wp2_with fail
      refine (HS1.out _).mono ?_
      rintro e w3 ⟨v3, vs3, rfl, own3, rd3, b3⟩
      have hl3 : vs3.length = L.length := rd3.1
      rw [hl3] at own3
      obtain ⟨A3, c3, rfl, _⟩ := own_row own3
      have b13 := below_then b12 b12.size b3
      have HE4 := hide (HEQ.out A2 A3 vs2 vs3 w1.heap.size w2.heap.size c2 c3 w3 (own_reads (own_below own2 b3)) (own_reads own3) (rs2.below b3).reads rd3)
      clear own2 rs2 b2 own3 rd3 b3 b12 hl2 hl3
      go_wp2_with fail
      refine HE4.out.mono ?_
      rintro e w4 ⟨rfl, m4, rfl⟩
      have b14 := below_drewN b13 m4
      generalize w3.drewN m4 = w4 at *
      go_wp2_with fail
      refine (HI1.out _).mono ?_
      rintro e w5 ⟨v5, vs5, rfl, own5, rs5, _, b5⟩
      have hl5 : vs5.length = J.length := rs5.1.trans HJL.out
      rw [hl5] at own5
      obtain ⟨A5, c5, rfl, _⟩ := own_row own5
      have b15 := below_then b14 b14.size b5
      clear b5 HE4 b13 b14 hl5
      go_wp2_with fail
      refine (HF1.out _).mono ?_
      rintro e w6 ⟨rfl, b6⟩
      have b16 := below_then b15 b15.size b6
      have own6 := own_below own5 b6
      have rs6 := rs5.below b6
      clear own5 rs5 b6 b15
      go_wp2_with fail
      refine (HB0.out _).mono ?_
      rintro e w7 ⟨rfl, rfl⟩
      go_wp2_with fail
      go_loopw [8, 9] (fun a i wr => ∃ q : Nat, q ≤ J.length ∧ i = .int .i64 (q : Int) ∧ a = .int .i64 ((fallTo W m x q : Nat) : Int) ∧ Below w6.heap.size w6 wr) (fun _ i _ => J.length - (intOf i).toNat)
      case atStart => exact ⟨0, Nat.zero_le _, rfl, by rw [HF0.out], Below.refl _ _⟩
      case round =>
        obtain ⟨q, hq, rfl, rfl, hb⟩ := hrel
        obtain ⟨wo, rfl⟩ : ∃ wo : World, wo = wr := ⟨_, rfl⟩
        have hfq := HFL.out q
        by_cases hlt : q < J.length
        · obtain ⟨Aq, cq, eq, oq⟩ := rs6.get (HAT.out q hlt)
          rw [show (rowJ (J[q]?.getD (0, 0, 0))).length = 3 from rfl] at eq oq
          obtain ⟨gq, cq', eg, _, _⟩ := own_addrP oq (by omega)
          injection eg with eg _ ec
          subst eg
          subst ec
          obtain ⟨g5, c5', e5, _, _⟩ := own_addrP own6 (by omega)
          injection e5 with e5 _ ec5
          subst e5
          subst ec5
          have oqo := own_below oq hb
          obtain ⟨ad5, e5', hcl⟩ := (own_reads (own_below own6 hb)).at_ (k := q) (by have := List.getElem?_eq_some_iff.1 eq; exact this.1)
          injection e5' with e5'
          subst e5'
          rw [eq, Option.getD_some, add0P] at hcl
          obtain ⟨_, ⟨rfl⟩, d0⟩ := (own_reads oqo) 0 (by simp [rowJ])
          obtain ⟨_, ⟨rfl⟩, d1⟩ := (own_reads oqo) 1 (by simp [rowJ])
          obtain ⟨_, ⟨rfl⟩, d2⟩ := (own_reads oqo) 2 (by simp [rowJ])
          rw [add0P] at d0 d1 d2
          have hJ := HJI.out q hlt
          have hsum := jump_sum hJ
          obtain ⟨hg1, hg2⟩ := HGE.out q hlt
          have HFy := hide (fun w5 => HFQ.out q hlt w5)
          have hS := hide (HFS.out q)
          have hbp : behindP x (J[q]?.getD (0, 0, 0)) = x - 2 ^ (J[q]?.getD (0, 0, 0)).1 - 2 ^ (J[q]?.getD (0, 0, 0)).2.1 + 2 ^ (J[q]?.getD (0, 0, 0)).2.2 := rfl
          have hi := hJ.i
          have hm := hJ.m
          have hk := hJ.k
          clear eq oq oqo hJ
          generalize J[q]?.getD (0, 0, 0) = jj at *
          obtain ⟨i, mm, k⟩ := jj
          simp only [rowJ, ints, List.map_cons, List.map_nil, List.getElem_cons_zero, List.getElem_cons_succ] at d0 d1 d2 hsum hi hm hk hbp
          have HPi := hide (fun w5 => HPW.out i (by omega) w5)
          have HPm := hide (fun w5 => HPW.out mm (by omega) w5)
          have HPk := hide (fun w5 => HPW.out k (by omega) w5)
          have pk := pow12 (n := k) (by omega)
          generalize behindP x (i, mm, k) = y at *
          generalize (2 ^ i : Nat) = P at *
          generalize (2 ^ mm : Nat) = Q at *
          generalize (2 ^ k : Nat) = R at *
          obtain ⟨s1, hs1⟩ : ∃ s1, x - P = s1 := ⟨_, rfl⟩
          obtain ⟨s2, hs2⟩ : ∃ s2, s1 - Q = s2 := ⟨_, rfl⟩
          rw [hs1, hs2] at hbp
          have f1 : IntKind.i64.wrap ((x : Int) - (P : Int)) = (s1 : Int) := (IntWalk.i64_in _ (by omega)).trans (by omega)
          have f2 : IntKind.i64.wrap ((s1 : Int) - (Q : Int)) = (s2 : Int) := (IntWalk.i64_in _ (by omega)).trans (by omega)
          have f3 : IntKind.i64.wrap ((s2 : Int) + (R : Int)) = (y : Int) := (IntWalk.i64_in _ (by omega)).trans (by omega)
          generalize fewL W m y = V' at *
          generalize fewL W m x = V at *
          generalize fallTo W m x q = a at *
          have q0 : (0 : Int) ≤ (q : Int) := by omega
          have q1 : (q : Int) < (J.length : Int) := by omega
          have hvv : ¬ ((V' : Int) < (V : Int)) := by omega
          have HQ := hide hlt
          clear hs1 hs2 hbp hsum hi hm hk pk hlt
          go_wp2_with fail
          refine wp_region_still_tail 27 (by kernel_rfl) (by kernel_rfl) ?_
          simp only [List.take_succ_cons, List.take_zero, List.drop_succ_cons, List.drop_zero]
          repeat still_step
          still_call ((HPi.out _).mono (fun _ _ h => ⟨h.1, h.2.symm⟩))
          repeat still_step
          still_call ((HPm.out _).mono (fun _ _ h => ⟨h.1, h.2.symm⟩))
          repeat still_step
          still_call ((HPk.out _).mono (fun _ _ h => ⟨h.1, h.2.symm⟩))
          repeat still_step
          try refine wpStill_nil ?_
          have hbd := hb.drew
          change wpList _ _ _ _ _ wo.drew
          clear hcl d0 d1 d2 hb f1 f2 f3 HPi HPm HPk
          generalize wo.drew = wd at *
          have HS := hide hS
          obtain ⟨t, ht1, ht2, ht3⟩ : ∃ t : Nat, (if (V' : Int) < (a : Int) then (V' : Int) else (a : Int)) = (t : Int) ∧ min (a : Int) (V' : Int) = (t : Int) ∧ min a V' = t := by
            by_cases h : (V' : Int) < (a : Int)
            · exact ⟨V', if_pos h, by omega, by omega⟩
            · exact ⟨a, if_neg h, by omega, by omega⟩
          have HT := hide (hS.out.trans ht3)
          clear ht3 hS
          go_wp2_with fail
          refine (HFy.out _).mono ?_
          rintro e w8 ⟨rfl, b8⟩
          have b18 := below_then hbd hbd.size b8
          go_wp2_with fail
          exact ⟨⟨q + 1, HQ.out, by go_num, by rw [HT.out], b18⟩, by simp [intOf]; omega⟩
        · obtain rfl : q = J.length := by omega
          have hfa := HFA.out
          rw [hfa]
          generalize fewL W m x = V at *
          have hv2 : ¬ ((V : Int) < 0) := by omega
          have hv3 : ((V : Int) == (V : Int)) = true := by simp
          clear hfa hfq
          go_wp2_with fail
          go_ret
          exact ⟨rfl, below_then b16 b16.size hb⟩
    · have hc : fewV bc br x = -1 := by unfold fewV; rw [if_neg hP]
      have hj : jumpV bc br x = [] := by unfold jumpV; rw [if_neg hP]
      have HBA := hide (fun w5 => bitsAny_c x hx5.1 hx5.2 w5)
      rw [hc] at HF1
      rw [hj] at HI1 HS1 HEQ
      clear hc hj hP HI HS HF hLl hLx hx5
      go_wp2_with fail
      refine (HI1.out _).mono ?_
      rintro e w2 ⟨v2, vs2, rfl, own2, rs2, _, b2⟩
      obtain rfl : vs2 = [] := List.eq_nil_of_length_eq_zero rs2.1
      obtain ⟨A2, c2, rfl, _⟩ := own_row own2
      have b12 := below_then b1 b1.size b2
      clear own2 rs2 b2
      go_wp2_with fail
      refine (HS1.out _).mono ?_
      rintro e w3 ⟨v3, vs3, rfl, own3, rs3, b3⟩
      obtain rfl : vs3 = [] := List.eq_nil_of_length_eq_zero rs3.1
      obtain ⟨A3, c3, rfl, _⟩ := own_row own3
      have b13 := below_then b12 b12.size b3
      clear own3 rs3 b3
      go_wp2_with fail
      refine (HEQ.out A2 A3 [] [] 0 0 c2 c3 w3 (Row.empty _ _) (Row.empty _ _) (Reads.nil _ _) (Reads.nil _ _)).mono ?_
      rintro e w4 ⟨rfl, m4, rfl⟩
      have b14 := below_drewN b13 m4
      generalize w3.drewN m4 = w4 at *
      go_wp2_with fail
      refine (HI1.out _).mono ?_
      rintro e w5 ⟨v5, vs5, rfl, own5, rs5, _, b5⟩
      obtain rfl : vs5 = [] := List.eq_nil_of_length_eq_zero rs5.1
      obtain ⟨A5, c5, rfl, _⟩ := own_row own5
      have b15 := below_then b14 b14.size b5
      clear own5 rs5 b5
      go_wp2_with fail
      refine (HF1.out _).mono ?_
      rintro e w6 ⟨rfl, b6⟩
      have b16 := below_then b15 b15.size b6
      go_wp2_with fail
      refine (HBA.out _).mono ?_
      rintro e w7 ⟨⟨r, rfl, _, _⟩, rfl⟩
      go_wp2_with fail
      refine wp_loop_rounds 1 ?_
      rw [rounds_succ]
      go_wp2_with fail
      go_ret
      exact ⟨rfl, b16⟩
end Go.Proofs.Ytgbbmnnpphkkbac
