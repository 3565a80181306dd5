
/-
  Lights: powers up to 4096, bits of sets of twelve, how many; the model's sets of cells that a press turns.
-/
import Derived.Test.YtijidecdokbmnacLightP
import Derived.Test.YtijidecdokbmnacGuardC
import Derived.Test.YtijidecdokbmnacBitN
namespace Go.Proofs.Ytijidecdokbmnac
open Go.RowKit
set_option linter.unusedVariables false

theorem pow12 {n : Nat} (h : n ≤ 12) : 1 ≤ 2 ^ n ∧ 2 ^ n ≤ 4096 :=
  ⟨Nat.one_le_two_pow, Nat.le_trans (Nat.pow_le_pow_right (by omega) h) (by decide)⟩
theorem specPower12_c (n : Nat) (hn : n ≤ 12) (w : World) : Calls Try.prog 20 #[.int .i64 (n : Int)] w fun e w' => e = .returned (.int .i64 ((2 ^ n : Nat) : Int)) ∧ w = w' := by
  go_enter Try.func20, Try.ntmps20
  go_wp2_with fail
  go_loopw [0, 3] (fun a p wr => ∃ k : Nat, k ≤ n ∧ a = .int .i64 ((n - k : Nat) : Int) ∧ p = .int .i64 ((2 ^ k : Nat) : Int) ∧ w = wr) (fun a _ _ => (intOf a).toNat)
  case atStart => exact ⟨0, Nat.zero_le _, by simp, rfl, rfl⟩
  case round =>
    obtain ⟨k, hk, rfl, rfl, rfl⟩ := hrel
    by_cases hlt : k < n
    · have hb := pow12 (n := k) (by omega)
      have hpos : (0 : Int) < ((n - k : Nat) : Int) := by omega
      have hle : ((n - k : Nat) : Int) ≤ 12 := by omega
      have hp2 : Hid ((2 ^ (k + 1) : Nat) = 2 * 2 ^ k) := by show 2 ^ (k + 1) = 2 * 2 ^ k; rw [Nat.pow_succ, Nat.mul_comm]
      have hs := hide (show ((n - k : Nat) : Int) - 1 = ((n - (k + 1) : Nat) : Int) by omega)
      generalize hP : (2 ^ k : Nat) = P at *
      generalize hM : ((n - k : Nat) : Int) = M at *
      clear hP
      go_wp2_with fail
      exact ⟨⟨k + 1, hlt, by rw [hs.out], by rw [hp2.out]; push_cast; rfl, trivial⟩, by simp [intOf]; omega⟩
    · have hkk : Hid (k = n) := hide (by omega)
      have hz : ((n - k : Nat) : Int) = 0 := by omega
      rw [hz]
      go_wp2_with fail
      go_ret
      exact ⟨by rw [hkk.out]; rfl, rfl⟩

set_option maxHeartbeats 400000 in
theorem specBit12_c (x j : Nat) (hx : x ≤ 4096) (hj : j ≤ 12) (w : World) : Calls Try.prog 21 #[.int .i64 (x : Int), .int .i64 (j : Int)] w fun e w' => e = .returned (.int .i64 ((bitN x j : Nat) : Int)) ∧ w = w' := by
  have HP := hide (fun w5 => specPower12_c j hj w5)
  obtain ⟨p1, p2⟩ := pow12 (n := j) hj
  have hb : Hid (bitN x j = x / 2 ^ j % 2) := rfl
  have hb2 : bitN x j ≤ 1 := by unfold bitN; omega
  have hq : x / 2 ^ j ≤ x := Nat.div_le_self _ _
  have t1 : Int.tdiv (x : Int) ((2 ^ j : Nat) : Int) = ((x / 2 ^ j : Nat) : Int) := Int.tdiv_eq_ediv_of_nonneg (Int.natCast_nonneg _)
  have t2 : Int.tmod ((x / 2 ^ j : Nat) : Int) 2 = ((bitN x j : Nat) : Int) := Int.tmod_eq_emod_of_nonneg (Int.natCast_nonneg _)
  generalize bitN x j = bv at *
  generalize x / 2 ^ j = q at *
  generalize 2 ^ j = P at *
  have e0 : IntKind.i64.wrap (q : Int) = (q : Int) := IntWalk.i64_in _ (by omega)
  have e1 : IntKind.i64.wrap (bv : Int) = (bv : Int) := IntWalk.i64_in _ (by omega)
  have hP : (P : Int) ≠ 0 := by omega
  clear hb
  go_enter Try.func21, Try.ntmps21
  go_wp2_with fail
  refine (HP.out _).mono ?_
  rintro e w1 ⟨rfl, rfl⟩
  go_wp2_with fail
  go_ret
  exact ⟨rfl, rfl⟩

theorem pcN_none : ∀ f, pcN f 0 = 0
  | 0 => rfl
  | f + 1 => by simp only [pcN]; rw [Nat.zero_div, pcN_none f]
theorem pcN_most : ∀ f x, pcN f x ≤ f
  | 0, x => Nat.zero_le _
  | f + 1, x => by simp only [pcN]; have := pcN_most f (x / 2); omega
set_option maxHeartbeats 400000 in
theorem specBits12_c (s : Nat) (hs : s < 4096) (w : World) : Calls Try.prog 23 #[.int .i64 (s : Int)] w fun e w' => e = .returned (.int .i64 ((pcN 12 s : Nat) : Int)) ∧ w = w' := by
  have hle := pcN_most 12 s
  go_enter Try.func23, Try.ntmps23
  go_wp2_with fail
  go_loopw [0, 3] (fun a p wr => ∃ x m f : Nat, x < 2 ^ f ∧ x < 4096 ∧ m ≤ 12 ∧ a = .int .i64 (x : Int) ∧ p = .int .i64 (m : Int) ∧ Hid (m + pcN f x = pcN 12 s) ∧ w = wr) (fun a _ _ => (intOf a).toNat)
  case atStart => exact ⟨s, 0, 12, hs, hs, Nat.zero_le _, rfl, rfl, Nat.zero_add _, rfl⟩
  case round =>
    obtain ⟨x, m, f, hxf, hx, hm12, rfl, rfl, hm, rfl⟩ := hrel
    by_cases hp : 0 < x
    · obtain ⟨f, rfl⟩ : ∃ f', f = f' + 1 := ⟨f - 1, by
        rcases f with _ | f
        · simp at hxf; omega
        · rfl⟩
      have hh : Hid (pcN (f + 1) x = x % 2 + pcN f (x / 2)) := rfl
      have hxf' : x / 2 < 2 ^ f := by rw [Nat.pow_succ] at hxf; omega
      have hd : x / 2 < x := by omega
      have hr : x % 2 ≤ 1 := by omega
      have t1 : Int.tdiv (x : Int) 2 = ((x / 2 : Nat) : Int) := Int.tdiv_eq_ediv_of_nonneg (by omega)
      have t2 : Int.tmod (x : Int) 2 = ((x % 2 : Nat) : Int) := Int.tmod_eq_emod_of_nonneg (by omega)
      have hp' : (0 : Int) < (x : Int) := by omega
      generalize hQ : x / 2 = q at *
      generalize hR : x % 2 = r at *
      have HN : Hid (m + r + pcN f q = pcN 12 s) := by
        show _ = _
        have i1 := hm.out
        have i2 := hh.out
        rw [i2] at i1
        omega
      have hm12' : m + r ≤ 12 := by have := HN.out; omega
      have e1 : IntKind.i64.wrap (q : Int) = (q : Int) := IntWalk.i64_in _ (by omega)
      have e2 : IntKind.i64.wrap (r : Int) = (r : Int) := IntWalk.i64_in _ (by omega)
      have e3 : IntKind.i64.wrap ((m : Int) + (r : Int)) = ((m + r : Nat) : Int) := (IntWalk.i64_in _ (by omega)).trans (by omega)
      have hqx : (q : Int) < (x : Int) := by omega
      have HXF := hide hxf'
      clear hQ hR hle hm hh hxf hxf'
      go_wp2_with fail
      exact ⟨⟨q, m + r, f, HXF.out, by omega, hm12', rfl, rfl, HN, trivial⟩, by simp [intOf]; omega⟩
    · obtain rfl : x = 0 := by omega
      have hm' := hm.out
      rw [pcN_none] at hm'
      have HM := hide hm'
      clear hm hm' hle hxf
      go_wp2_with fail
      go_ret
      exact ⟨by rw [← HM.out]; rfl, rfl⟩

def Lit12 (bc br : Int) : Prop := Brd bc br ∧ bc * br ≤ 12
instance (bc br : Int) : Decidable (Lit12 bc br) := by unfold Lit12; infer_instance
theorem sumPow_bd12 (R : List Int) (h : ∀ i, i < R.length → 0 ≤ R[i]?.getD 0 ∧ R[i]?.getD 0 < 12) : ∀ k, k ≤ R.length → sumPow R k ≤ 2048 * k
  | 0, _ => Nat.le_refl _
  | k + 1, hk => by
    have h1 := sumPow_bd12 R h k (by omega)
    obtain ⟨h2, h3⟩ := h k (by omega)
    have h4 : 2 ^ (R[k]?.getD 0).toNat ≤ 2 ^ 11 := Nat.pow_le_pow_right (by omega) (by omega)
    rw [sumPow]
    omega

set_option maxHeartbeats 2000000 in
set_option maxRecDepth 100000 in
theorem reaches12_c (bc br : Int) (s : ByteArray) (ss : List (Int × Int)) (far : Bool) (w : World) (hk : kindL s.toList = some (ss, far)) (hS : Lit12 bc br) :
    Calls Try.prog 43 #[.int .i64 bc, .int .i64 br, .string s] w (Owns 3 1 (setsP bc br far ss).length (ints (natI (setsP bc br far ss))) w) := by
  obtain ⟨⟨h1, h2, h3, h4⟩, h9⟩ := hS
  obtain ⟨m1, m2⟩ := mul_bd h1 h2 h3 h4
  obtain ⟨n, hn⟩ : ∃ n : Nat, bc * br = (n : Int) := ⟨(bc * br).toNat, by omega⟩
  have hlen : (setsP bc br far ss).length = n := by simp [setsP, hn]
  have hn9 : n ≤ 12 := by omega
  have HX := hide (fun (k : Nat) (hkn : k < n) => show ∃ R : List Int, R.length ≤ 1000 ∧ sumPow R R.length = (setsP bc br far ss)[k]?.getD 0 ∧ (∀ i, i < R.length → 0 ≤ R[i]?.getD 0 ∧ R[i]?.getD 0 < 12) ∧ ∀ (O : Option Addr) (oc : Nat) (w5 : World), Calls Try.prog 49 #[.int .i64 bc, .int .i64 br, .string s, .int .i64 (k : Int), .slice O 0 oc] w5 (Owns 3 1 R.length (ints R) w5) by
    refine ⟨reachP bc br far [] (k : Int) ss, ?_, ?_, ?_, ?_⟩
    · have := reach_len bc br far [] (k : Int) ss
      have := (kind_ok hk).2.1
      omega
    · rw [sumPow_reach, setsP, List.getElem?_map, List.getElem?_range (by omega)]
      rfl
    · intro i hi
      have := reach_cells h1 h2 h3 h4 i hi
      omega
    · intro O oc w5
      exact specReach_c bc br k s O oc ss far [] w5 hk h1 h2 h3 h4 (by omega) (by omega) (Row.empty _ _) (by simp [maxLen]))
  rw [hlen]
  have HP := hide (fun (j : Nat) (hj : j ≤ 12) w5 => specPower12_c j hj w5)
  have e0 : IntKind.i64.wrap (bc * br) = (n : Int) := (IntWalk.i64_in _ (by omega)).trans hn
  have HN := hide hn
  clear hk hn
  have HT := hide (fun (k : Nat) (hkn : k < n) => show natI ((setsP bc br far ss).take (k + 1)) = natI ((setsP bc br far ss).take k) ++ [(((setsP bc br far ss)[k]?.getD 0 : Nat) : Int)] by
    rw [List.take_succ_eq_append_getElem (by omega), List.getElem?_eq_getElem (by omega)]
    unfold natI
    rw [List.map_append]
    rfl)
  have HTn := hide (show (setsP bc br far ss).take n = setsP bc br far ss from List.take_of_length_le (by omega))
  generalize setsP bc br far ss = L at *
  go_enter Try.func43, Try.ntmps43
  go_wp2_with fail
  go_loopw [7, 8] (fun v i wr => ∃ k : Nat, k ≤ n ∧ i = .int .i64 (k : Int) ∧ wr.ownsRow w.heap.size 3 1 v k (ints (natI (L.take k))) ∧ Below w.heap.size w wr) (fun _ i _ => n - (intOf i).toNat)
  case atStart => exact ⟨0, Nat.zero_le _, rfl, by simpa [natI, ints] using World.ownsRow_made w #[] 0 (Nat.le_refl _) (by simp [maxLen]) rfl, (Below.refl _ _).alloc (Nat.le_refl _) _⟩
  case round =>
    obtain ⟨k, hk, rfl, hown, hb⟩ := hrel
    obtain ⟨wo, rfl⟩ : ∃ wo : World, wo = wr := ⟨_, rfl⟩
    have z := hb.size
    obtain ⟨A0, c0, rfl, _⟩ := own_row hown
    by_cases hlt : k < n
    · obtain ⟨R, hRl, hRs, hRb, hRc⟩ := HX.out k hlt
      have HRB := hide (sumPow_bd12 R hRb)
      have HRb := hide hRb
      have HRs := hide hRs
      have HRc := hide hRc
      have HTk := hide (HT.out k hlt)
      clear hRb hRs hRc
      generalize L[k]?.getD 0 = x at *
      have hba := hb.alloc z (.cells #[] 3)
      have hva := hide (hown.alloc (.cells #[] 3))
      go_wp2_with fail
      refine (HRc.out _ _ _).mono ?_
      rintro e w5 ⟨v5, rfl, o5, b5⟩
      have bx := below_then hba hba.size b5
      have hvb := hide (own_below hva.out b5)
      obtain ⟨A5, c5, rfl, _⟩ := own_row o5
      have R5 := hide (own_reads o5)
      clear o5 b5
      go_wp2_with fail
      go_loopw [9, 11] (fun a i wi => ∃ j : Nat, j ≤ R.length ∧ i = .int .i64 (j : Int) ∧ a = .int .i64 ((sumPow R j : Nat) : Int) ∧ w5 = wi) (fun _ i _ => R.length - (intOf i).toNat)
      case atStart => exact ⟨0, Nat.zero_le _, rfl, rfl, rfl⟩
      case round =>
        obtain ⟨j, hj, rfl, rfl, rfl⟩ := hrel
        have hsb := HRB.out j hj
        by_cases hjl : j < R.length
        · obtain ⟨ad, rfl, hcj⟩ := R5.out.int (k := j) hjl
          obtain ⟨y0, y9⟩ := HRb.out j hjl
          obtain ⟨y, hy⟩ := Int.eq_ofNat_of_zero_le y0
          have HJ : Hid (sumPow R (j + 1) = sumPow R j + 2 ^ y) := by show sumPow R j + 2 ^ (R[j]?.getD 0).toNat = _; rw [hy]; rfl
          have hy9 : y ≤ 12 := by omega
          rw [hy] at hcj
          have HPy := hide (fun w5 => HP.out y hy9 w5)
          have hpb := pow12 hy9
          clear hy y0 y9
          generalize sumPow R j = a at *
          generalize 2 ^ y = p at *
          have e1 : IntKind.i64.wrap ((a : Int) + (p : Int)) = ((a + p : Nat) : Int) := (IntWalk.i64_in _ (by omega)).trans (by omega)
          have j0 : (0 : Int) ≤ (j : Int) := by omega
          have j1 : (j : Int) < (R.length : Int) := by omega
          go_wp2_with fail
          refine (HPy.out _).mono ?_
          rintro e w7 ⟨rfl, rfl⟩
          go_wp2_with fail
          exact ⟨⟨j + 1, hjl, by go_num, by rw [HJ.out]; push_cast; rfl, trivial⟩, by simp [intOf]; omega⟩
        · obtain rfl : j = R.length := by omega
          rw [HRs.out]
          have hvc := hide (hvb.out.alloc (.cells #[.int .i64 (x : Int)] 3))
          have hbc := bx.alloc bx.size (.cells #[.int .i64 (x : Int)] 3)
          go_wp2_with ((at_builtin; refine put_own rfl (.tmp 39) (.tmp 41) rfl Try.underlying30 elem_int' rfl hvc.out rfl (m := 1) (news := [.int .i64 (x : Int)]) rfl (row_new _ _ _ rfl) (by simp [Value.oneCell']) (by omega) (by omega) hbc.size ?_; intro v9 w9 own9 hg9 ho9))
          exact ⟨⟨k + 1, hlt, by go_num, by rw [HTk.out]; simpa [ints] using own9, below_grown hbc hbc.size hvc.out (Nat.le_refl _) hg9⟩, by simp [intOf]; omega⟩
    · obtain rfl : k = n := by omega
      rw [HTn.out] at hown
      go_wp2_with fail
      go_ret
      exact ⟨_, rfl, hown, hb⟩
end Go.Proofs.Ytijidecdokbmnac
