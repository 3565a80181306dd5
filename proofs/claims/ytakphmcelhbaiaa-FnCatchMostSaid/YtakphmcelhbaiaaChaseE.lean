
/-
  Chases: the model's CatchMost.
-/
import Derived.Test.YtakphmcelhbaiaaChaseD
namespace Go.Proofs.Ytakphmcelhbaiaa
open Go.RowKit
set_option linter.unusedVariables false

set_option maxHeartbeats 2000000 in
theorem specCatchMost_c (bc br : Int) (s : ByteArray) (W : World) : Calls Try.prog 11 #[.int .i64 bc, .int .i64 br, .string s] W (Plain (.int .i64 (mostV bc br s.toList)) W) := by
  have HVS := hide (validSmall_c bc br s W)
  unfold mostV
  cases hk : smallK bc br s.toList with
  | none =>
    rw [hk] at HVS
    clear hk
    go_enter Try.func11, Try.ntmps11
    go_wp2_with fail
    refine HVS.out.mono ?_
    rintro e w1 ⟨rfl, b1⟩
    go_wp2_with fail
    go_ret
    exact ⟨rfl, b1⟩
  | some p =>
    obtain ⟨ss, far⟩ := p
    rw [hk] at HVS
    obtain ⟨hS, hkk⟩ := smallK_some hk
    have HSR := hide (fun w5 => reaches_c bc br s ss far w5 hkk hS)
    obtain ⟨n, hC⟩ := chase_of hS hkk
    have hok := cat_ok hC.tab
    have h9s := hC.sets
    have hlen := hC.len
    have hn1 := hC.one
    have hn9 := hC.nine
    have hsz := hC.size
    simp only
    clear hk hS hkk hC
    generalize setsP bc br far ss = L at *
    generalize catN L = C at *
    rw [hsz, Int.toNat_natCast]
    clear hsz
    have HM := hide (fun (A : Option Addr) (c : Nat) (w5 : World) (hr : Row w5 A (ints (natI L))) => catches_c A c L C n w5 hlen hn1 h9s hok hr)
    have HZ := hide (fun i (hi : i < n) => hasZ_is (C := C) (n := n) (i := i) (f := maskV C (topN C) i) (fun k hk => mask_all hok (by omega) (by omega)))
    have HI := hide (fun (A : Option Addr) (c : Nat) (l : List Int) (w5 : World) (hl : l.length = n) (hr : Row w5 A (ints l)) => show Calls Try.prog _ #[.slice A n c, .int .i64 (-1)] w5 (Plain (.bool (decide ((-1 : Int) ∈ l))) w5) by
      have := hasInt_c A l c (-1) w5 hr (by simp [maxLen]; omega)
      rwa [hl] at this)
    have HBS : Hid (∀ i, bestTo C n (i + 1) = if hasZ C n i then bestTo C n i else match bestTo C n i with
      | none => some (mostTo C i n)
      | some b => some (min b (mostTo C i n))) := fun i => rfl
    have HMS : Hid (∀ i k, mostTo C i (k + 1) = max (mostTo C i k) (cAt C i k - 1)) := fun i k => rfl
    have HMA := hide (fun i k (hi : i < n) (hk : k < n) => mask_all hok (a := i) (b := k) (by omega) (by omega))
    have HTB := hide (fun i k (hi : i < n) (hk : k < n) => show cAt C i k ≤ 5 from Nat.le_trans (hok.top i k (by omega) (by omega)) hok.low.2)
    rw [hlen] at HSR
    clear hok h9s hlen
    go_enter Try.func11, Try.ntmps11
    go_wp2_with fail
    refine HVS.out.mono ?_
    rintro e w1 ⟨rfl, b1⟩
    go_wp2_with fail
    refine (HSR.out _).mono ?_
    rintro e w4 ⟨v4, rfl, o4, b4⟩
    obtain ⟨A4, c4, rfl, _⟩ := own_row o4
    have b14 := below_then b1 b1.size b4
    have R4 := hide (own_reads o4)
    clear o4
    go_wp2_with fail
    refine (HM.out _ _ _ R4.out).mono ?_
    rintro e w5 ⟨gm, cm, ps, rfl, o5, r5, b5⟩
    have b15 := below_then b14 b14.size b5
    have hpl : ps.length = n := by rw [r5.len, grid_len]
    have HQ := hide (fun i (hi : i < n) => show ∃ gr cr, w5.cell? ⟨gm, i, none⟩ = some (.slice (some ⟨gr, 0, none⟩) n cr) ∧ Row w5 (some ⟨gr, 0, none⟩) (ints ((List.range n).map (maskV C (topN C) i))) by
      have hip : i < ps.length := by omega
      have ho := own_reads (r5.own i hip)
      rw [grid_row hi] at ho
      exact ⟨_, _, (hdr_cell o5 hip).1, ho⟩)
    have HQ2 := hide (fun i k (hi : i < n) (hk : k < n) => show ∃ gr cr, w5.cell? ⟨gm, i, none⟩ = some (.slice (some ⟨gr, 0, none⟩) n cr) ∧ w5.cell? ⟨gr, k, none⟩ = some (.int .i64 ((cAt C i k : Int) - 1)) by
      have hip : i < ps.length := by omega
      have h2 := (r5.cell hip hk).1
      rw [grid_at hi hk, HMA.out i k hi hk] at h2
      exact ⟨_, _, (hdr_cell o5 hip).1, h2⟩)
    clear o5 r5 b5 hpl b14 R4
    go_wp2_with fail
    go_loopw [8, 9] (fun bv v wr => ∃ i : Nat, i ≤ n ∧ v = .int .i64 (i : Int) ∧ bv = .int .i64 (optI (bestTo C n i)) ∧ Below w5.heap.size w5 wr) (fun _ v _ => n - (intOf v).toNat)
    case atStart => exact ⟨0, Nat.zero_le _, rfl, rfl, Below.refl _ _⟩
    case round =>
      obtain ⟨i, hi, rfl, rfl, hb⟩ := hrel
      obtain ⟨wo, rfl⟩ : ∃ wo : World, wo = wr := ⟨_, rfl⟩
      by_cases hlt : i < n
      · have HLT := hide hlt
        have i0 : (0 : Int) ≤ (i : Int) := by omega
        have i1 : (i : Int) < (n : Int) := by omega
        go_wp2_with fail
        go_loopw [10, 11] (fun mv kv wj => ∃ k : Nat, k ≤ n ∧ kv = .int .i64 (k : Int) ∧ mv = .int .i64 ((mostTo C i k : Nat) : Int) ∧ wo = wj) (fun _ kv _ => n - (intOf kv).toNat)
        case atStart => exact ⟨0, Nat.zero_le _, rfl, rfl, rfl⟩
        case round =>
          obtain ⟨k, hk, rfl, rfl, rfl⟩ := hrel
          by_cases hkl : k < n
          · obtain ⟨gr, cr, q1, q2⟩ := HQ2.out i k HLT.out hkl
            have q1 := (hb.cell (World.block_lt_of_cell? _ _ q1)).trans q1
            have q2 := (hb.cell (World.block_lt_of_cell? _ _ q2)).trans q2
            have HKL := hide hkl
            have k0 : (0 : Int) ≤ (k : Int) := by omega
            have k1 : (k : Int) < (n : Int) := by omega
            have hms := HMS.out i k
            obtain ⟨m', hm'⟩ : ∃ m', mostTo C i (k + 1) = m' := ⟨_, rfl⟩
            rw [hm'] at hms
            have HM2 := hide hm'
            clear hm'
            generalize mostTo C i k = m at *
            generalize cAt C i k = x at *
            have hmx : max (m : Int) ((x : Int) - 1) = (m' : Int) := by omega
            clear hms
            go_wp2_with fail
            exact ⟨⟨k + 1, HKL.out, by go_num, by rw [HM2.out], trivial⟩, by simp [intOf]; omega⟩
          · obtain rfl : k = n := by omega
            obtain ⟨gr, cr, q1, hrow⟩ := HQ.out i HLT.out
            have q1 := (hb.cell (World.block_lt_of_cell? _ _ q1)).trans q1
            have HIr := hide (HI.out (some ⟨gr, 0, none⟩) cr _ wo (by simp) (hrow.below hb))
            rw [HZ.out i HLT.out] at HIr
            have HS1 := hide (HBS.out i)
            clear hrow
            cases hz : hasZ C k i with
            | true =>
              rw [hz] at HIr HS1
              clear hz
              go_wp2_with fail
              refine HIr.out.mono ?_
              rintro e w8 ⟨rfl, b8⟩
              have hb8 := below_then hb hb.size b8
              go_wp2_with fail
              exact ⟨⟨i + 1, HLT.out, by go_num, by rw [HS1.out]; rfl, hb8⟩, by simp [intOf]; omega⟩
            | false =>
              rw [hz] at HIr HS1
              clear hz
              cases hbt : bestTo C k i with
              | none =>
                rw [hbt] at HS1
                clear hbt
                go_wp2_with fail
                refine HIr.out.mono ?_
                rintro e w8 ⟨rfl, b8⟩
                have hb8 := below_then hb hb.size b8
                go_wp2_with fail
                exact ⟨⟨i + 1, HLT.out, by go_num, by rw [HS1.out]; rfl, hb8⟩, by simp [intOf]; omega⟩
              | some b =>
                rw [hbt] at HS1
                clear hbt
                generalize mostTo C i k = m at *
                have hb0 : ¬ ((b : Int) < 0) := by omega
                have hob : optI (some b) = (b : Int) := rfl
                by_cases hmb : m < b
                · have hmb' : (m : Int) < (b : Int) := by omega
                  have HS2 := hide (show bestTo C k (i + 1) = some m by rw [HS1.out]; simp; omega)
                  clear hmb HS1
                  go_wp2_with fail
                  refine HIr.out.mono ?_
                  rintro e w8 ⟨rfl, b8⟩
                  have hb8 := below_then hb hb.size b8
                  go_wp2_with fail
                  exact ⟨⟨i + 1, HLT.out, by go_num, by rw [HS2.out]; rfl, hb8⟩, by simp [intOf]; omega⟩
                · have hmb' : ¬ (m : Int) < (b : Int) := by omega
                  have HS2 := hide (show bestTo C k (i + 1) = some b by rw [HS1.out]; simp; omega)
                  clear hmb HS1
                  go_wp2_with fail
                  refine HIr.out.mono ?_
                  rintro e w8 ⟨rfl, b8⟩
                  have hb8 := below_then hb hb.size b8
                  go_wp2_with fail
                  exact ⟨⟨i + 1, HLT.out, by go_num, by rw [HS2.out]; rfl, hb8⟩, by simp [intOf]; omega⟩
      · obtain rfl : i = n := by omega
        generalize optI (bestTo C i i) = bb at *
        go_wp2_with fail
        go_ret
        exact ⟨rfl, below_then b15 b15.size hb⟩
end Go.Proofs.Ytakphmcelhbaiaa
