
/-
  Lights: the model's CanDarken and FewestPresses.
-/
import Derived.Test.YtmfdlijkpdgimaaGreatDoorLightE
import Derived.Test.YtmfdlijkpdgimaaGreatDoorLightR
import Derived.Lib.MinMax
namespace Go.Proofs.YtmfdlijkpdgimaaGreatDoor
open Go.RowKit
set_option linter.unusedVariables false

def ascOk (w h : Nat) : Bool := (List.range (datL w h).lead.length).all fun i => decide (i + 1 < (datL w h).lead.length → (datL w h).lead[i]?.getD 0 < (datL w h).lead[i + 1]?.getD 0)
theorem asc_ok : ∀ a : Fin 5, ∀ b : Fin 5, (a.val + 1) * (b.val + 1) ≤ 12 → ascOk (a.val + 1) (b.val + 1) = true := by decide +kernel
theorem asc_is {w h : Nat} (hw : 1 ≤ w ∧ w ≤ 5) (hh : 1 ≤ h ∧ h ≤ 5) (h12 : w * h ≤ 12) (i : Nat) (hi : i + 1 < (datL w h).lead.length) : (datL w h).lead[i]?.getD 0 < (datL w h).lead[i + 1]?.getD 0 := by
  obtain ⟨a, rfl⟩ : ∃ a, w = a + 1 := ⟨w - 1, by omega⟩
  obtain ⟨b, rfl⟩ : ∃ b, h = b + 1 := ⟨h - 1, by omega⟩
  have := List.all_eq_true.1 (asc_ok ⟨a, by omega⟩ ⟨b, by omega⟩ h12) i (List.mem_range.2 (by show i < (datL (a + 1) (b + 1)).lead.length; omega))
  exact (of_decide_eq_true this) hi
theorem sum_lt {right lead : List Nat} (hr : ∀ i : Nat, right[i]?.getD 0 < 2) (ha : ∀ i, i + 1 < lead.length → lead[i]?.getD 0 < lead[i + 1]?.getD 0) : ∀ (i m : Nat), i ≤ lead.length → (∀ j, j < i → lead[j]?.getD 0 < m) → sumToL right lead i < 2 ^ m
  | 0, m, _, _ => Nat.two_pow_pos m
  | i + 1, m, hi, hm => by
    have ih := sum_lt hr ha i (lead[i]?.getD 0) (by omega) (fun j hj => by
      have : ∀ d, j + d < lead.length → 0 < d → lead[j]?.getD 0 < lead[j + d]?.getD 0 := fun d => by
        induction d with
        | zero => intro _ h; omega
        | succ d ih =>
          intro h1 _
          have h2 := ha (j + d) (by omega)
          rcases Nat.eq_zero_or_pos d with e | e
          · subst e; exact h2
          · exact Nat.lt_trans (ih (by omega) e) h2
      have := this (i - j) (by omega) (by omega)
      rwa [show j + (i - j) = i by omega] at this)
    have h1 := hm i (by omega)
    have h2 : 2 ^ (lead[i]?.getD 0 + 1) ≤ 2 ^ m := Nat.pow_le_pow_right (by omega) h1
    have h3 := hr i
    rw [Nat.pow_succ] at h2
    simp only [sumToL]
    have : right[i]?.getD 0 = 0 ∨ right[i]?.getD 0 = 1 := by omega
    rcases this with e | e <;> rw [e] <;> omega
theorem side_two (x : Nat) (M : List Nat) (i : Nat) : (M.map (sideN x))[i]?.getD 0 < 2 := by
  rw [List.getElem?_map]
  cases M[i]? with
  | none => simp
  | some m => exact par_two _

def optV : Option Nat → Int
  | some k => ((k : Nat) : Int)
  | none => -1
def darkV (bc br x : Int) : Bool := decide (LitS bc br x) && ((lessP (datL bc.toNat br.toNat).leads (0, x.toNat)).2 == 0)
def fewVL (bc br x : Int) : Int := if LitS bc br x then optV (fewI (bc * br).toNat (datL bc.toNat br.toNat).leads (datL bc.toNat br.toNat).quiet x.toNat) else -1
theorem darkV_nat {w h x : Nat} (hw : 1 ≤ w ∧ w ≤ 5) (hh : 1 ≤ h ∧ h ≤ 5) (h12 : w * h ≤ 12) (hx : x < 2 ^ (w * h)) : darkV w h x = ((lessP (datL w h).leads (0, x)).2 == 0) := by
  unfold darkV
  rw [decide_eq_true (litS_of hw hh h12 hx), Bool.true_and]
  simp only [Int.toNat_natCast]
theorem fewVL_nat {w h x : Nat} (hw : 1 ≤ w ∧ w ≤ 5) (hh : 1 ≤ h ∧ h ≤ 5) (h12 : w * h ≤ 12) (hx : x < 2 ^ (w * h)) : fewVL w h x = optV (fewI (w * h) (datL w h).leads (datL w h).quiet x) := by
  unfold fewVL
  rw [if_pos (litS_of hw hh h12 hx), ← Int.natCast_mul]
  simp only [Int.toNat_natCast]
theorem few_some (n : Nat) (M : List Row2) (Q : List Nat) (x : Nat) : (fewI n M Q x).isSome = ((lessP M (0, x)).2 == 0) := by
  unfold fewI
  split
  · rename_i h; rw [h]; rfl
  · rename_i h; rw [beq_eq_false_iff_ne.2 h]; rfl

theorem minM_le (n : Nat) (Q : List Nat) (s : Nat) : ∀ k, minM n Q s k ≤ n
  | 0 => Nat.le_refl _
  | k + 1 => Nat.le_trans (Nat.min_le_left _ _) (minM_le n Q s k)
set_option maxHeartbeats 4000000 in
set_option maxRecDepth 100000 in
theorem specFewestPresses_c (bc br x : Int) (W : World) : Calls Tryz.prog 33 #[.int .i64 bc, .int .i64 br, .int .i64 x] W (Plain (.int .i64 (fewVL bc br x)) W) := by
  have HV := hide (fun w5 => validLights_c bc br x w5)
  by_cases hL : LitS bc br x
  · rw [decide_eq_true hL] at HV
    obtain ⟨w, h, x, rfl, rfl, rfl, hw, hh, h12, hx⟩ := litS_nat hL
    rw [fewVL_nat hw hh h12 hx, (lights_at hw hh h12 hx).few]
    have hD := dat_is hw hh h12
    have HSO := hide (fun w5 => solve_c w h x w5 hw hh h12 (set12 h12 hx))
    rw [elim_is hw hh h12] at HSO
    have hsl : sumToL ((datL w h).masks.map (sideN x)) (datL w h).lead (datL w h).lead.length < 2 ^ 12 := sum_lt (side_two x _) (asc_is hw hh h12) _ 12 (Nat.le_refl _) (fun j _ => by have := hD.leadlt j; omega)
    have hqb : ∀ k : Nat, (quietTo (datL w h).rows (datL w h).lead (w * h))[k]?.getD 0 < 2 ^ 12 := fun k => set12 h12 (hD.quietbd' k)
    have hql : (quietTo (datL w h).rows (datL w h).lead (w * h)).length ≤ 3 := by rw [hD.quietlen]; exact hD.three
    have hF : fewM (datL w h).lit ⟨(datL w h).rows, (datL w h).masks.map (sideN x), (datL w h).lead⟩ = if goodTo ((datL w h).masks.map (sideN x)) (datL w h).lead.length (w * h - (datL w h).lead.length) = true then
        some (minM (w * h) (quietTo (datL w h).rows (datL w h).lead (w * h)) (sumToL ((datL w h).masks.map (sideN x)) (datL w h).lead (datL w h).lead.length) (2 ^ (quietTo (datL w h).rows (datL w h).lead (w * h)).length)) else none := by
      unfold fewM
      simp only [hD.len]
    rw [hF]
    have HSO' := hide (fun w5 => show Calls Tryz.prog 50 #[.int .i64 (w : Int), .int .i64 (h : Int), .int .i64 (x : Int)] w5 (fun e w' =>
        (goodTo ((datL w h).masks.map (sideN x)) (datL w h).lead.length (w * h - (datL w h).lead.length) = false ∧ e = .returned (.tuple #[.int .i64 0, .slice none 0 0, .bool false]) ∧ Below w5.heap.size w5 w') ∨
        (goodTo ((datL w h).masks.map (sideN x)) (datL w h).lead.length (w * h - (datL w h).lead.length) = true ∧ ∃ v, e = .returned (.tuple #[.int .i64 ((sumToL ((datL w h).masks.map (sideN x)) (datL w h).lead (datL w h).lead.length : Nat) : Int), v, .bool true]) ∧ w'.ownsRow w5.heap.size 3 1 v (quietTo (datL w h).rows (datL w h).lead (w * h)).length (ints (natI (quietTo (datL w h).rows (datL w h).lead (w * h)))) ∧ Below w5.heap.size w5 w')) from HSO.out w5)
    have hmn : ((w : Int) * (h : Int)) = ((w * h : Nat) : Int) := by rw [Int.natCast_mul]
    have e0 : IntKind.i64.wrap ((w : Int) * (h : Int)) = ((w * h : Nat) : Int) := (IntWalk.i64_in _ (by omega)).trans hmn
    have HBI := hide (fun (y j : Nat) (hy : y ≤ 4096) (hj : j ≤ 12) w5 => specBit12_c y j hy hj w5)
    have HPW := hide (fun (j : Nat) (hj : j ≤ 12) w5 => specPower12_c j hj w5)
    have HXO := hide (fun (a b : Nat) (ha : a < 4096) (hb : b < 4096) w5 => specXor_c a b ha hb w5)
    clear HSO hF hD hL hw hh hx hmn
    generalize goodTo ((datL w h).masks.map (sideN x)) (datL w h).lead.length (w * h - (datL w h).lead.length) = gd at *
    generalize sumToL ((datL w h).masks.map (sideN x)) (datL w h).lead (datL w h).lead.length = s0 at *
    generalize quietTo (datL w h).rows (datL w h).lead (w * h) = Q at *
    generalize w * h = n at *
    obtain ⟨V, hV⟩ : ∃ V, optV (if gd = true then some (minM n Q s0 (2 ^ Q.length)) else none) = V := ⟨_, rfl⟩
    rw [hV]
    have HVV := hide hV
    clear hV
    go_enter Tryz.func33, Tryz.ntmps33
    go_wp2_with fail
    refine (HV.out _).mono ?_
    rintro e w1 ⟨rfl, rfl⟩
    go_wp2_with fail
    refine (HSO'.out _).mono ?_
    rintro e w2 (⟨hg, rfl, b2⟩ | ⟨hg, v, rfl, o2, b2⟩)
    · have hv := HVV.out
      rw [hg] at hv
      have HN := hide (show V = -1 from hv.symm)
      clear hv hg HVV
      go_wp2_with fail
      go_ret
      exact ⟨by rw [HN.out]; rfl, b2⟩
    · have hv := HVV.out
      rw [hg] at hv
      have HN := hide (show V = ((minM n Q s0 (2 ^ Q.length) : Nat) : Int) from hv.symm)
      obtain ⟨A2, c2, rfl, _⟩ := own_row o2
      have R2 := hide (own_reads o2)
      have HPQ := hide (fun w5 => HPW.out Q.length (by omega) w5)
      have HM0 := hide (show minM n Q s0 0 = n from rfl)
      have HMS := hide (fun k => show minM n Q s0 (k + 1) = min (minM n Q s0 k) (pcN 12 (pressTo Q s0 k Q.length)) from rfl)
      have HML := hide (fun k => minM_le n Q s0 k)
      have HT0 := hide (fun k => show pressTo Q s0 k 0 = s0 from rfl)
      have HTS := hide (fun k i => show pressTo Q s0 k (i + 1) = if bitN k i = 1 then pressTo Q s0 k i ^^^ (Q[i]?.getD 0) else pressTo Q s0 k i from rfl)
      have HTB := hide (fun k i => press_lt k hqb hsl i)
      have hp8 : 2 ^ Q.length ≤ 8 := Nat.pow_le_pow_right (n := 2) (by omega) hql
      have HQB := hide hqb
      clear hv hg HVV o2 hqb
      generalize 2 ^ Q.length = P at *
      go_wp2_with fail
      go_loopw [10, 11] (fun b i wr => ∃ k : Nat, k ≤ P ∧ i = .int .i64 (k : Int) ∧ b = .int .i64 ((minM n Q s0 k : Nat) : Int) ∧ w2 = wr) (fun _ i _ => P - (intOf i).toNat)
      case atStart => exact ⟨0, Nat.zero_le _, rfl, by rw [HM0.out], rfl⟩
      case round =>
        obtain ⟨k, hk, rfl, rfl, rfl⟩ := hrel
        have hml := HML.out k
        by_cases hkl : k < P
        · have k0 : (0 : Int) ≤ (k : Int) := by omega
          have k1 : (k : Int) < (P : Int) := by omega
          have HT0k := hide (HT0.out k)
          have HTSk := hide (HTS.out k)
          have HTBk := hide (HTB.out k)
          have HMk := hide (HMS.out k)
          have HBk := hide (fun (j : Nat) (hj : j ≤ 12) w5 => HBI.out k j (by omega) hj w5)
          go_wp2_with fail
          refine (HPQ.out _).mono ?_
          rintro e w5 ⟨rfl, rfl⟩
          go_wp2_with fail
          go_loopw [12, 13] (fun s i wi => ∃ j : Nat, j ≤ Q.length ∧ i = .int .i64 (j : Int) ∧ s = .int .i64 ((pressTo Q s0 k j : Nat) : Int) ∧ w2 = wi) (fun _ i _ => Q.length - (intOf i).toNat)
          case atStart => exact ⟨0, Nat.zero_le _, rfl, by rw [HT0k.out], rfl⟩
          case round =>
            obtain ⟨j, hj, rfl, rfl, rfl⟩ := hrel
            have hsb := HTBk.out j
            by_cases hjl : j < Q.length
            · have hTS := HTSk.out j
              have HBj := hide (fun w5 => HBk.out j (by omega) w5)
              have j0 : (0 : Int) ≤ (j : Int) := by omega
              have j1 : (j : Int) < (Q.length : Int) := by omega
              rcases bitN_two k j with hbb | hbb
              · rw [hbb] at HBj hTS
                rw [if_neg (by omega)] at hTS
                have HTj := hide hTS
                clear hTS hbb
                go_wp2_with fail
                refine (HBj.out _).mono ?_
                rintro e w5 ⟨rfl, rfl⟩
                go_wp2_with fail
                exact ⟨⟨j + 1, hjl, by go_num, by rw [HTj.out], trivial⟩, by simp [intOf]; omega⟩
              · rw [hbb] at HBj hTS
                rw [if_pos rfl] at hTS
                have HTj := hide hTS
                obtain ⟨ad, rfl, hck⟩ := R2.out.int (k := j) (by rw [natI_len]; exact hjl)
                rw [natI_at] at hck
                have HXj := hide (fun w5 => HXO.out (pressTo Q s0 k j) (Q[j]?.getD 0) hsb (HQB.out j) w5)
                clear hTS hbb
                generalize Q[j]?.getD 0 = y at *
                generalize pressTo Q s0 k j = z at *
                go_wp2_with fail
                refine (HBj.out _).mono ?_
                rintro e w5 ⟨rfl, rfl⟩
                go_wp2_with fail
                refine (HXj.out _).mono ?_
                rintro e w5 ⟨rfl, rfl⟩
                go_wp2_with fail
                exact ⟨⟨j + 1, hjl, by go_num, by rw [HTj.out], trivial⟩, by simp [intOf]; omega⟩
            · obtain rfl : j = Q.length := by omega
              have hpm := pcN_most 12 (pressTo Q s0 k Q.length)
              have HSZ := hide (fun w5 => specBits12_c (pressTo Q s0 k Q.length) hsb w5)
              generalize pressTo Q s0 k Q.length = s at *
              generalize pcN 12 s = pv at *
              generalize minM n Q s0 k = a at *
              obtain ⟨mm, hmm⟩ : ∃ mm, min a pv = mm := ⟨_, rfl⟩
              have HMk' := hide (HMk.out.trans hmm)
              have hm1 : min (a : Int) (pv : Int) = (mm : Int) := by rw [← hmm]; omega
              have hm2 : (if (pv : Int) < (a : Int) then (pv : Int) else (a : Int)) = (mm : Int) := by rw [← hmm]; split <;> omega
              clear hmm hsb HMk
              go_wp2_with fail
              refine (HSZ.out _).mono ?_
              rintro e w7 ⟨rfl, rfl⟩
              go_wp2_with fail
              go_round
              case rel => exact ⟨k + 1, hkl, by go_num, by rw [HMk'.out], trivial⟩
              case measure => simp [intOf]; omega
        · obtain rfl : k = P := by omega
          go_wp2_with fail
          refine (HPQ.out _).mono ?_
          rintro e w5 ⟨rfl, rfl⟩
          go_wp2_with fail
          go_ret
          exact ⟨by rw [HN.out]; rfl, b2⟩
  · rw [decide_eq_false hL] at HV
    have hv : fewVL bc br x = -1 := if_neg hL
    rw [hv]
    clear hL hv
    go_enter Tryz.func33, Tryz.ntmps33
    go_wp2_with fail
    refine (HV.out _).mono ?_
    rintro e w1 ⟨rfl, rfl⟩
    go_wp2_with fail
    go_ret
    exact ⟨rfl, Below.refl _ _⟩
end Go.Proofs.YtmfdlijkpdgimaaGreatDoor
