
/-
  The walk of the law FnRowsAreHit, off the contracts of the program's functions (given).
-/
import Derived.Test.YtoapmmmmdfmaeacWalkG
import Derived.Test.YtoapmmmmdfmaeacDrawM
import Derived.Test.YtoapmmmmdfmaeacLawRW
import Derived.Test.YtoapmmmmdfmaeacGuardN
import Derived.Deep.RegionHeld3
namespace Go.Proofs.Ytoapmmmmdfmaeac
open Go.RowKit
set_option linter.unusedVariables false

theorem kind_stepW : kindL (ByteArray.toList ⟨#[115, 116, 101, 112]⟩) = some (straight, false) := by decide +kernel
theorem row_law (q r : Nat) (h1 : 2 ≤ q) (h2 : q ≤ 5) (hr : r + 1 = q) : hitV (q : Int) 1 (ByteArray.toList ⟨#[115, 116, 101, 112]⟩) 0 (r : Int) = some (r * r, 1) := by
  have hw := row_hit ⟨q - 2, by omega⟩
  unfold rowHit at hw
  simp only [show q - 2 + 2 = q by omega] at hw
  unfold hitV smallK
  rw [if_pos ⟨by omega, by omega, by omega, by omega, by omega⟩, kind_stepW]
  simp only
  cases hh : hitOf (setsP (q : Int) 1 false straight) with
  | none => rw [hh] at hw; cases hw
  | some M =>
    rw [hh] at hw
    simp only at hw
    rw [show q - 1 = r by omega] at hw
    rw [if_pos ⟨⟨by omega, by omega⟩, by omega, by omega⟩, Option.map_some]
    simp only [Int.toNat_natCast, Int.toNat_zero]
    rw [beq_iff_eq.1 hw]
theorem frac_one : ∀ r : Fin 5, fracP (r.val * r.val) 1 = (r.val * r.val, 1) := by decide
theorem opt_parts (o : Option (Nat × Nat)) : ∃ (x y : Nat) (t : Bool), optF o = .tuple #[.agg #[.int .i64 (x : Int), .int .i64 (y : Int)], .bool t] := by
  cases o with
  | none => exact ⟨0, 0, false, rfl⟩
  | some p => exact ⟨p.1, p.2, true, rfl⟩
set_option maxHeartbeats 4000000 in
set_option maxRecDepth 100000 in
theorem rowsAreHit_w (HI : ∀ (bc br : Int) (s : ByteArray) (i k : Int) (w5 : World), Calls Try.prog 7 #[.int .i64 bc, .int .i64 br, .string s, .int .i64 i, .int .i64 k] w5 (Plain (optF (hitV bc br s.toList i k)) w5))
    (HV : ∀ (bc br : Int) (s : ByteArray) (w5 : World), Calls Try.prog 12 #[.int .i64 bc, .int .i64 br, .string s] w5 (Plain (.bool (smallK bc br s.toList).isSome) w5))
    (A : Option Addr) (n c : Nat) (w : World) (h : Code w A n c) : Calls Try.prog 4 #[.slice A n c] w (Plain (.bool true) w) := by
  by_cases hl : 1048576 < (n : Int)
  · go_enter Try.func4, Try.ntmps4
    go_wp2
    go_ret
    exact ⟨rfl, Below.refl _ _⟩
  · have HC := hide (drawHitTime_c A n c w h)
    have HI := hide HI
    have HV := hide HV
    clear h
    go_enter Try.func4, Try.ntmps4
    go_wp2_with fail
    refine HC.out.mono ?_
    rintro e w1 ⟨bc, br, i, k, s, rfl, -, -, -, -, -, b1⟩
    have HI1 := hide (fun w5 => HI.out bc br s i k w5)
    have HS1 := hide (fun w5 => specHitTime_c bc br s i k w5)
    have HV1 := hide (fun w5 => HV.out bc br s w5)
    have HSM : Hid ((smallK bc br s.toList).isSome = true → 1 ≤ bc ∧ bc ≤ 5) := hide (fun hs => by
      obtain ⟨⟨ss, far⟩, hz⟩ := Option.isSome_iff_exists.1 hs
      obtain ⟨⟨s1, s2, s3, s4, s5⟩, _⟩ := smallK_some hz
      omega)
    clear HC HV
    obtain ⟨x, y, t, ho⟩ := opt_parts (hitV bc br s.toList i k)
    rw [ho] at HI1 HS1
    obtain ⟨v, hv⟩ : ∃ v, (smallK bc br s.toList).isSome = v := ⟨_, rfl⟩
    rw [hv] at HV1 HSM
    clear ho hv
    have both : ∀ q : Bool, (q != q) = false := fun q => by cases q <;> rfl
    have t1 := both t
    clear both
    go_wp2_with fail
    refine (HI1.out _).mono ?_
    rintro e w2 ⟨rfl, b2⟩
    have b12 := below_then b1 b1.size b2
    have bw := Box.new w2 26 #[.int .i64 (x : Int), .int .i64 (y : Int)]
    have b12 := b12.alloc b12.size (.cells #[.int .i64 (x : Int), .int .i64 (y : Int)] 26)
    go_wp2_with fail
    refine (HS1.out _).mono ?_
    rintro e w3 ⟨rfl, b3⟩
    have b13 := below_then b12 b12.size b3
    have bw := (bw.then b3).alloc (.cells #[.int .i64 (x : Int), .int .i64 (y : Int)] 26)
    have bg := Box.new w3 26 #[.int .i64 (x : Int), .int .i64 (y : Int)]
    have b13 := b13.alloc b13.size (.cells #[.int .i64 (x : Int), .int .i64 (y : Int)] 26)
    have c0 := bw.cell 0
    have c1 := bw.cell 1
    have d0 := bg.cell 0
    have d1 := bg.cell 1
    go_wp2_with fail
    refine (HV1.out _).mono ?_
    rintro e w4 ⟨rfl, b4⟩
    have b14 := below_then b13 b13.size b4
    clear b1 b2 b3 b4 bw bg c0 c1 d0 d1 b12 b13 HI1 HS1 HV1
    cases v with
    | false =>
      go_wp2_with fail
      go_ret
      exact ⟨rfl, b14⟩
    | true =>
      obtain ⟨h1, h5⟩ := HSM.out rfl
      by_cases hi : i < 0
      · go_wp2_with fail
        go_ret
        exact ⟨rfl, b14⟩
      · by_cases hk : k < 0
        · go_wp2_with fail
          go_ret
          exact ⟨rfl, b14⟩
        · by_cases h2 : bc < 2
          · go_wp2_with fail
            go_ret
            exact ⟨rfl, b14⟩
          · obtain ⟨q, rfl⟩ : ∃ q : Nat, bc = (q : Int) := ⟨bc.toNat, by omega⟩
            obtain ⟨r, hr⟩ : ∃ r : Nat, r + 1 = q := ⟨q - 1, by omega⟩
            have HR := hide (fun w5 => show Calls Try.prog _ #[.int .i64 (q : Int), .int .i64 1, .string ⟨#[115, 116, 101, 112]⟩, .int .i64 0, .int .i64 (r : Int)] w5 (Plain (.tuple #[.agg #[.int .i64 ((r * r : Nat) : Int), .int .i64 1], .bool true]) w5) by
              have := HI.out (q : Int) 1 ⟨#[115, 116, 101, 112]⟩ 0 (r : Int) w5
              rwa [row_law q r (by omega) (by omega) hr] at this)
            have hrr : r * r ≤ 4 * 4 := Nat.mul_le_mul (by omega) (by omega)
            have HF := hide (fun w5 => show Calls Try.prog _ #[.int .i64 ((r * r : Nat) : Int), .int .i64 1] w5 (Plain (.agg #[.int .i64 ((r * r : Nat) : Int), .int .i64 1]) w5) by
              have := fracOf_c (r * r) 1 w5 (by omega) ⟨by omega, by omega⟩
              rwa [frac_one ⟨r, by omega⟩] at this)
            have e1 : IntKind.i64.wrap ((q : Int) - 1) = (r : Int) := (IntWalk.i64_in _ (by omega)).trans (by omega)
            have e2 : IntKind.i64.wrap ((r : Int) * (r : Int)) = ((r * r : Nat) : Int) := (IntWalk.i64_in _ (by rw [← Int.natCast_mul]; omega)).trans (Int.natCast_mul _ _).symm
            generalize r * r = m at *
            clear hr hrr HI HSM h1 h5
            go_wp2_with fail
            refine (HR.out _).mono ?_
            rintro e w5 ⟨rfl, b5⟩
            have b15 := below_then b14 b14.size b5
            have bx := Box.new w5 26 #[.int .i64 (m : Int), .int .i64 1]
            have b15 := b15.alloc b15.size (.cells #[.int .i64 (m : Int), .int .i64 1] 26)
            clear b14 b5
            go_wp2_with fail
            generalize w5.alloc (.cells #[.int .i64 (m : Int), .int .i64 1] 26) = wA at *
            obtain ⟨gx, hgx⟩ : ∃ gx, w5.heap.size = gx := ⟨_, rfl⟩
            rw [hgx] at bx
            rw [hgx]
            have x0 := bx.cell 0
            have x1 : wA.cell? ⟨gx, 1, none⟩ = some (.int .i64 1) := bx.cell 1
            clear hgx
            go_region_held3 (fun w' => w'.cell? ⟨gx, 0, none⟩ = some (.int .i64 (m : Int)) ∧ w'.cell? ⟨gx, 1, none⟩ = some (.int .i64 1)) (go_keep)
              (first
                | (go_at_call 9; refine (HF.out _).mono ?_; rintro e w7 ⟨rfl, b7⟩
                   have bx7 := Box.then (w := wA.drew) bx b7
                   have hb7 := below_then (w := wA.drew) b15.drew b15.drew.size b7
                   have t2 := bx7.cell 0
                   have t3 : w7.cell? ⟨gx, 1, none⟩ = some (.int .i64 1) := bx7.cell 1))
            go_wp2_with fail
            go_ret
            exact ⟨rfl, hb7⟩
end Go.Proofs.Ytoapmmmmdfmaeac
