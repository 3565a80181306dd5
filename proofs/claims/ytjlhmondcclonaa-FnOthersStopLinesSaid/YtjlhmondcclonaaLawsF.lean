/-
  The walk of the law FnOthersStopLines.
-/
import Derived.Test.YtjlhmondcclonaaLawsE
namespace Go.Proofs.Ytjlhmondcclonaa
open Go.RowKit
set_option linter.unusedVariables false

set_option maxHeartbeats 2000000 in
set_option maxRecDepth 100000 in
theorem others_w (A : Option Addr) (n c : Nat) (w : World) (h : Code w A n c) : Calls Try.prog 8 #[.slice A n c] w (Plain (.bool true) w) := by
  by_cases hl : 1048576 < (n : Int)
  · go_enter Try.func8, Try.ntmps8
    go_wp2
    go_ret
    exact ⟨rfl, Below.refl _ _⟩
  · have HC := hide (drawReachOf_c A n c w h)
    clear h
    go_enter Try.func8, Try.ntmps8
    go_wp2_with fail
    refine HC.out.mono ?_
    rintro e w1 ⟨bc, br, cell, s, v, xs, rfl, _, _, _, hs, ox, hxl, b1⟩
    obtain ⟨O, oc, rfl, _⟩ := own_row ox
    have hxm : xs.length ≤ maxLen := by unfold maxLen; omega
    have HI := hide (fun (w5 : World) (hr : Row w5 O (ints xs)) => implReachOf_c bc br cell s O oc xs w5 hr (own_flat ox) hxm)
    have HF := hide (fun (w5 : World) => implReachOf_c bc br cell s none 0 [] w5 (Row.empty _ _) flat_none (by simp [maxLen]))
    have HS := hide (fun (w5 : World) (hr : Row w5 O (ints xs)) => specReachOf_c bc br cell s O oc xs w5 hr hxm)
    have HV := hide (fun (w5 : World) => implValidKind_c s w5)
    have HMo := hide (fun (w5 : World) => implMovesFrom_c bc br cell s w5)
    have hll := reachOfP_len bc br s.toList cell xs
    have hfl := reachOfP_len bc br s.toList cell []
    clear hxm
    go_wp2_with fail
    refine (HI.out _ (own_reads ox)).mono ?_
    rintro e w2 ⟨v2, rfl, o2, b2⟩
    obtain ⟨A2, c2, rfl, _⟩ := own_row o2
    have ox := own_below ox b2
    have b2 := below_then b1 b1.size b2
    go_wp2_with fail
    refine (HS.out _ (own_reads ox)).mono ?_
    rintro e w3 ⟨v3, rfl, o3, b3⟩
    obtain ⟨A3, c3, rfl, _⟩ := own_row o3
    have o2 := own_below o2 b3
    have b3 := below_then b2 b2.size b3
    go_wp2_with fail
    refine (equalInts_t _ _ _ _ _ _ _ _ _ rfl rfl (own_reads o2) (own_reads o3) (by omega) rfl).mono ?_
    rintro e w4 ⟨rfl, b4⟩
    have b4 := below_then b3 b3.size b4
    clear o3 o2 ox
    go_wp2_with fail
    refine (HF.out _).mono ?_
    rintro e w5 ⟨v5, rfl, o5, b5⟩
    obtain ⟨A5, c5, rfl, _⟩ := own_row o5
    have b5 := below_then b4 b4.size b5
    go_wp2_with fail
    refine (HV.out _).mono ?_
    rintro e w6 ⟨rfl, b6⟩
    have o5 := own_below o5 b6
    have b6 := below_then b5 b5.size b6
    cases hk : kindL s.toList with
    | none =>
      have Hk := hide (show (none : Option (List (Int × Int) × Bool)).isSome = false from rfl)
      clear hk
      simp only [Option.isSome_none]
      go_wp2_with fail
      go_ret
      exact ⟨rfl, b6⟩
    | some p =>
      obtain ⟨ss, far⟩ := p
      simp only [Option.isSome_some]
      have Hk := hide hk
      clear hk
      go_wp2_with fail
      refine (HMo.out _).mono ?_
      rintro e w7 ⟨v7, rfl, o7, b7⟩
      obtain ⟨A7, c7, rfl, _⟩ := own_row o7
      have o5 := own_below o5 b7
      have b7 := below_then b6 b6.size b7
      by_cases hv : Brd bc br ∧ 0 ≤ cell ∧ cell < bc * br
      · obtain ⟨hB, g1, g2⟩ := hv
        have hpos := movesFromP_pos Hk.out hB g1 g2
        have hz : (((movesFromP bc br s.toList cell).length : Int) == 0) = false := by
          rw [beq_eq_false_iff_ne]; omega
        obtain ⟨t1, t2, t3⟩ := stop_of Hk.out hB g1 g2 (ByteArray.toList ⟨#[107, 105, 110, 103]⟩) (by decide +kernel)
        obtain ⟨h1, h2, h3, h4⟩ := hB
        obtain ⟨m1, m2⟩ := mul_bd h1 h2 h3 h4
        obtain ⟨N, hN⟩ : ∃ N : Nat, bc * br = (N : Int) := ⟨(bc * br).toNat, by omega⟩
        rw [hN, show ((N : Int)).toNat = N from rfl] at t1 t2 t3
        have hN2 : N ≤ 25 := by omega
        have hNi : ∀ i : Nat, i < N → (i : Int) < bc * br := fun i hi => by omega
        have hNj : ∀ i : Nat, ¬ i < N → ¬ (i : Int) < bc * br := fun i hi => by omega
        have HNi := hide hNi
        have HNj := hide hNj
        have hal : (allP N).length ≤ maxLen := by rw [allP_len]; unfold maxLen; omega
        have HK := hide (fun (w5 : World) => implReachOf_c bc br cell ⟨#[107, 105, 110, 103]⟩ none 0 [] w5 (Row.empty _ _) flat_none (by simp [maxLen]))
        have HA := hide (fun (A : Option Addr) (c : Nat) (w5 : World) (hr : Row w5 A (ints (allP N))) (hf : Flat A) => implReachOf_c bc br cell s A c (allP N) w5 hr hf hal)
        have hkl := reachOfP_len bc br (ByteArray.toList ⟨#[107, 105, 110, 103]⟩) cell []
        have hal2 := reachOfP_len bc br s.toList cell (allP N)
        generalize reachOfP bc br (ByteArray.toList ⟨#[107, 105, 110, 103]⟩) cell [] = K at *
        generalize reachOfP bc br s.toList cell (allP N) = L at *
        generalize reachOfP bc br s.toList cell [] = F at *
        have T1 := hide t1
        have T2 := hide t2
        clear t1 t2 hN hNi hNj hal HI HF HS HV HMo o7
        go_wp2_with fail
        have hz7 := b7.size
        go_loopw [9, 10] (fun v i wr => ∃ k : Nat, k ≤ N ∧ i = .int .i64 k ∧ wr.ownsRow w7.heap.size 3 1 v k (ints (allP k)) ∧ Below w7.heap.size w7 wr) (fun _ i _ => N - (intOf i).toNat)
        case atStart => exact ⟨0, Nat.zero_le _, rfl, World.ownsRow_made w7 #[] 0 (Nat.le_refl _) (by simp [maxLen]) rfl, (Below.refl _ _).alloc (Nat.le_refl _) _⟩
        case round =>
          obtain ⟨k, hk, rfl, hown, hb⟩ := hrel
          obtain ⟨wo, rfl⟩ : ∃ wo : World, wo = wr := ⟨_, rfl⟩
          have z := hb.size
          by_cases hlt : k < N
          · have hlt2 := HNi.out k hlt
            go_wp2_with ((at_builtin; refine put_own rfl (.tmp 64) (.tmp 66) rfl Try.underlying25 elem_int' rfl (hown.alloc _) rfl (m := 1) (news := [.int .i64 (k : Int)]) rfl (row_new _ _ _ rfl) (by simp [Value.oneCell']) (by omega) (by omega) (by simp; omega) ?_; intro v9 w9 hown9 hg9 ho9))
            exact ⟨⟨k + 1, hlt, rfl, by rw [allP_succ]; simpa [ints] using hown9, below_grown (hb.alloc z _) (by simp; omega) (hown.alloc _) (Nat.le_refl _) hg9⟩, by simp [intOf]; omega⟩
          · have hlt2 := HNj.out k hlt
            obtain rfl : k = N := by omega
            obtain ⟨A9, c9, rfl, _⟩ := own_row hown
            have o5 := own_below o5 hb
            have b8 := below_then b7 hz7 hb
            go_wp2_with fail
            refine (HK.out _).mono ?_
            rintro e w9 ⟨v11, rfl, o11, b9⟩
            obtain ⟨A11, c11, rfl, _⟩ := own_row o11
            have o5 := own_below o5 b9
            have hown := own_below hown b9
            have b9 := below_then b8 b8.size b9
            go_wp2_with fail
            have ha9 := HA.out A9 c9 w9 (own_reads hown) (own_flat hown)
            rw [allP_len] at ha9
            refine ha9.mono ?_
            rintro e w10 ⟨v12, rfl, o12, b10⟩
            obtain ⟨A12, c12, rfl, _⟩ := own_row o12
            have o5 := own_below o5 b10
            have o11 := own_below o11 b10
            have b10 := below_then b9 b9.size b10
            have r5 := own_reads o5
            have r11 := own_reads o11
            have r12 := own_reads o12
            clear o5 o11 o12 hown ha9
            go_wp2_with fail
            go_loopw [13] (fun i wr => ∃ j : Nat, j ≤ L.length ∧ i = .int .i64 j ∧ Below w10.heap.size w10 wr) (fun i _ => L.length - (intOf i).toNat)
            case atStart => exact ⟨0, Nat.zero_le _, rfl, Below.refl _ _⟩
            case round =>
              clear hb z hlt hlt2
              obtain ⟨j, hj, rfl, hb⟩ := hrel
              obtain ⟨wi, rfl⟩ : ∃ wi : World, wi = wr := ⟨_, rfl⟩
              by_cases hjl : j < L.length
              · obtain ⟨ad, rfl, hc⟩ := r12.int hjl
                obtain ⟨y, hy⟩ : ∃ y, L[j]?.getD 0 = y := ⟨_, rfl⟩
                have hmem : y ∈ L := by rw [← hy, List.getElem?_eq_getElem hjl]; exact List.getElem_mem hjl
                rw [hy] at hc
                have hci := (hb.cell (World.block_lt_of_cell? _ _ hc)).trans hc
                have f2 := hide (T2.out y hmem)
                cases hkn : (s.toList == [107, 110, 105, 103, 104, 116]) with
                | true =>
                  clear hy hmem
                  go_wp2_with fail
                  refine (isIn_t _ _ _ _ _ _ rfl (r5.below hb) (by omega) f2.out).mono ?_
                  rintro e w11 ⟨rfl, b11⟩
                  go_wp2_with fail
                  exact ⟨⟨j + 1, hjl, rfl, below_then hb hb.size b11⟩, by simp [intOf]; omega⟩
                | false =>
                  have f1 := hide (T1.out hkn y hmem)
                  clear hy hmem
                  go_wp2_with fail
                  refine (isIn_t _ _ _ _ _ _ rfl (r11.below hb) (by omega) f1.out).mono ?_
                  rintro e w11 ⟨rfl, b11⟩
                  have b11 := below_then hb hb.size b11
                  have hci := (b11.cell (World.block_lt_of_cell? _ _ hc)).trans hc
                  go_wp2_with fail
                  refine (isIn_t _ _ _ _ _ _ rfl (r5.below b11) (by omega) f2.out).mono ?_
                  rintro e w12 ⟨rfl, b12⟩
                  go_wp2_with fail
                  exact ⟨⟨j + 1, hjl, rfl, below_then b11 b11.size b12⟩, by simp [intOf]; omega⟩
              · have hlf : (L.length : Int) ≤ (F.length : Int) := by omega
                go_wp2_with fail
                go_ret
                exact ⟨rfl, below_then b10 b10.size hb⟩
      · have hz : movesFromP bc br s.toList cell = [] := by
          unfold movesFromP
          rw [Hk.out]
          simp only
          rw [if_neg hv]
        have hz2 : (((movesFromP bc br s.toList cell).length : Int) == 0) = true := by rw [hz]; rfl
        have HZ := hide hz
        clear hz hv
        go_wp2_with fail
        go_ret
        exact ⟨rfl, b7⟩
end Go.Proofs.Ytjlhmondcclonaa
