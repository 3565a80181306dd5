
/-
  Chases: the model's AlwaysCaught and CatchMost.
-/
import Derived.Test.YtakphmcelhbaiabChaseC
import Derived.Test.YtakphmcelhbaiabChaseM
import Derived.Lib.MinMax
namespace Go.Proofs.Ytakphmcelhbaiab
open Go.RowKit
set_option linter.unusedVariables false

theorem hasZ_is {C : List (List Nat)} {n i : Nat} {f : Nat → Int} (h : ∀ k, k < n → f k = (cAt C i k : Int) - 1) : decide ((-1 : Int) ∈ (List.range n).map f) = hasZ C n i := by
  unfold hasZ
  rw [Bool.eq_iff_iff, decide_eq_true_eq, List.any_eq_true]
  constructor
  · intro hm
    obtain ⟨k, hk, e⟩ := List.mem_map.1 hm
    have := h k (List.mem_range.1 hk)
    exact ⟨k, hk, beq_iff_eq.2 (by omega)⟩
  · rintro ⟨k, hk, e⟩
    have := h k (List.mem_range.1 hk)
    have := beq_iff_eq.1 e
    exact List.mem_map.2 ⟨k, hk, by omega⟩
theorem always_more {C : List (List Nat)} {n i : Nat} (h : alwaysTo C n i = true) : ∀ m, alwaysTo C n (i + m) = true
  | 0 => h
  | m + 1 => by
    show (alwaysTo C n (i + m) || _) = true
    rw [always_more h m, Bool.true_or]
def alwaysV (bc br : Int) (s : List UInt8) : Bool := match smallK bc br s with
  | some (ss, far) => alwaysTo (catN (setsP bc br far ss)) (bc * br).toNat (bc * br).toNat
  | none => false
def optI : Option Nat → Int
  | none => -1
  | some b => (b : Int)
def mostV (bc br : Int) (s : List UInt8) : Int := match smallK bc br s with
  | some (ss, far) => optI (bestTo (catN (setsP bc br far ss)) (bc * br).toNat (bc * br).toNat)
  | none => -1
set_option maxHeartbeats 2000000 in
theorem specAlwaysCaught_c (bc br : Int) (s : ByteArray) (W : World) : Calls Try.prog 18 #[.int .i64 bc, .int .i64 br, .string s] W (Plain (.bool (alwaysV bc br s.toList)) W) := by
  have HVS := hide (validSmall_c bc br s W)
  unfold alwaysV
  cases hk : smallK bc br s.toList with
  | none =>
    rw [hk] at HVS
    clear hk
    go_enter Try.func18, Try.ntmps18
    go_wp2_with fail
    refine HVS.out.mono ?_
    rintro e w1 ⟨rfl, b1⟩
    go_wp2_with fail
    go_ret
    exact ⟨rfl, b1⟩
  | some p =>
    obtain ⟨ss, far⟩ := p
    rw [hk] at HVS
    obtain ⟨hS, hkk⟩ := smallK_some hk
    have HSR := hide (fun w5 => reaches_c bc br s ss far w5 hkk hS)
    obtain ⟨n, hC⟩ := chase_of hS hkk
    have hok := cat_ok hC.tab
    have h9s := hC.sets
    have hlen := hC.len
    have hn1 := hC.one
    have hn9 := hC.nine
    have hsz := hC.size
    simp only
    clear hk hS hkk hC
    generalize setsP bc br far ss = L at *
    generalize catN L = C at *
    rw [hsz, Int.toNat_natCast]
    clear hsz
    have HM := hide (fun (A : Option Addr) (c : Nat) (w5 : World) (hr : Row w5 A (ints (natI L))) => catches_c A c L C n w5 hlen hn1 h9s hok hr)
    have HZ := hide (fun i (hi : i < n) => hasZ_is (C := C) (n := n) (i := i) (f := maskV C (topN C) i) (fun k hk => mask_all hok (by omega) (by omega)))
    have HI := hide (fun (A : Option Addr) (c : Nat) (l : List Int) (w5 : World) (hl : l.length = n) (hr : Row w5 A (ints l)) => show Calls Try.prog _ #[.slice A n c, .int .i64 (-1)] w5 (Plain (.bool (decide ((-1 : Int) ∈ l))) w5) by
      have := hasInt_c A l c (-1) w5 hr (by simp [maxLen]; omega)
      rwa [hl] at this)
    have HAS : Hid (∀ i, alwaysTo C n (i + 1) = (alwaysTo C n i || !hasZ C n i)) := fun i => rfl
    rw [hlen] at HSR
    clear hok h9s hlen
    go_enter Try.func18, Try.ntmps18
    go_wp2_with fail
    refine HVS.out.mono ?_
    rintro e w1 ⟨rfl, b1⟩
    go_wp2_with fail
    refine (HSR.out _).mono ?_
    rintro e w4 ⟨v4, rfl, o4, b4⟩
    obtain ⟨A4, c4, rfl, _⟩ := own_row o4
    have b14 := below_then b1 b1.size b4
    have R4 := hide (own_reads o4)
    clear o4
    go_wp2_with fail
    refine (HM.out _ _ _ R4.out).mono ?_
    rintro e w5 ⟨gm, cm, ps, rfl, o5, r5, b5⟩
    have b15 := below_then b14 b14.size b5
    have hpl : ps.length = n := by rw [r5.len, grid_len]
    have HQ := hide (fun i (hi : i < n) => show ∃ gr cr, w5.cell? ⟨gm, i, none⟩ = some (.slice (some ⟨gr, 0, none⟩) n cr) ∧ Row w5 (some ⟨gr, 0, none⟩) (ints ((List.range n).map (maskV C (topN C) i))) by
      have hip : i < ps.length := by omega
      have ho := own_reads (r5.own i hip)
      rw [grid_row hi] at ho
      exact ⟨_, _, (hdr_cell o5 hip).1, ho⟩)
    clear o5 r5 b5 hpl b14 R4
    go_wp2_with fail
    go_loopw [8] (fun v wr => ∃ i : Nat, i ≤ n ∧ v = .int .i64 (i : Int) ∧ Hid (alwaysTo C n i = false) ∧ Below w5.heap.size w5 wr) (fun v _ => n - (intOf v).toNat)
    case atStart => exact ⟨0, Nat.zero_le _, rfl, (rfl : alwaysTo C n 0 = false), Below.refl _ _⟩
    case round =>
      obtain ⟨i, hi, rfl, hal, hb⟩ := hrel
      obtain ⟨wo, rfl⟩ : ∃ wo : World, wo = wr := ⟨_, rfl⟩
      by_cases hlt : i < n
      · obtain ⟨gr, cr, q1, hrow⟩ := HQ.out i hlt
        have q1 := (hb.cell (World.block_lt_of_cell? _ _ q1)).trans q1
        have HIr := hide (HI.out (some ⟨gr, 0, none⟩) cr _ wo (by simp) (hrow.below hb))
        rw [HZ.out i hlt] at HIr
        have HS1 := hide (HAS.out i)
        have i0 : (0 : Int) ≤ (i : Int) := by omega
        have i1 : (i : Int) < (n : Int) := by omega
        have HLT := hide hlt
        clear hrow
        cases hz : hasZ C n i with
        | true =>
          rw [hz] at HIr HS1
          clear hz
          go_wp2_with fail
          refine HIr.out.mono ?_
          rintro e w8 ⟨rfl, b8⟩
          have hb8 := below_then hb hb.size b8
          go_wp2_with fail
          exact ⟨⟨i + 1, HLT.out, by go_num, by show _ = _; rw [HS1.out, hal.out]; rfl, hb8⟩, by simp [intOf]; omega⟩
        | false =>
          have HT : Hid (alwaysTo C n n = true) := by
            have h1 : alwaysTo C n (i + 1) = true := by rw [HS1.out, hz]; simp
            have := always_more h1 (n - (i + 1))
            rwa [show i + 1 + (n - (i + 1)) = n by omega] at this
          rw [hz] at HIr
          clear hz HS1
          go_wp2_with fail
          refine HIr.out.mono ?_
          rintro e w8 ⟨rfl, b8⟩
          have hb8 := below_then hb hb.size b8
          go_wp2_with fail
          go_ret
          exact ⟨by rw [HT.out]; try rfl, below_then b15 b15.size hb8⟩
      · obtain rfl : i = n := by omega
        go_wp2_with fail
        go_ret
        exact ⟨by rw [hal.out]; try rfl, below_then b15 b15.size hb⟩
end Go.Proofs.Ytakphmcelhbaiab
