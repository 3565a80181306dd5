
/-
  Guards: the model's sets of cells reached.
-/
import Derived.Test.YtdjkdjnbmhpokabGuardB
import Derived.Test.YtdjkdjnbmhpokabSpecM
namespace Go.Proofs.Ytdjkdjnbmhpokab
open Go.RowKit
set_option linter.unusedVariables false

def sumPow (R : List Int) : Nat → Nat
  | 0 => 0
  | k + 1 => sumPow R k + 2 ^ (R[k]?.getD 0).toNat
theorem sumPow_take (R : List Int) : ∀ k, k ≤ R.length → sumPow R k = ((R.take k).map fun x => 2 ^ x.toNat).sum
  | 0, _ => by simp [sumPow]
  | k + 1, h => by
    rw [sumPow, sumPow_take R k (by omega), List.take_succ_eq_append_getElem h, List.getElem?_eq_getElem h, List.map_append, List.sum_append]
    simp only [List.map_cons, List.map_nil, List.sum_cons, List.sum_nil, Nat.add_zero, Option.getD_some]
theorem sumPow_bd (R : List Int) (h : ∀ i, i < R.length → 0 ≤ R[i]?.getD 0 ∧ R[i]?.getD 0 < 9) : ∀ k, k ≤ R.length → sumPow R k ≤ 256 * k
  | 0, _ => Nat.le_refl _
  | k + 1, hk => by
    have h1 := sumPow_bd R h k (by omega)
    obtain ⟨h2, h3⟩ := h k (by omega)
    have h4 : 2 ^ (R[k]?.getD 0).toNat ≤ 2 ^ 8 := Nat.pow_le_pow_right (by omega) (by omega)
    rw [sumPow]
    omega
theorem sumPow_reach {bc br : Int} {far : Bool} {ss : List (Int × Int)} {k : Nat} : sumPow (reachP bc br far [] (k : Int) ss) (reachP bc br far [] (k : Int) ss).length = setFrom bc br far ss k := by
  rw [sumPow_take _ _ (Nat.le_refl _), List.take_length, setFrom]
  exact ((List.mergeSort_perm _ _).map _).sum_nat
theorem reach_cells {bc br : Int} {far : Bool} {ss : List (Int × Int)} {k : Int} (h1 : 1 ≤ bc) (h2 : bc ≤ 5) (h3 : 1 ≤ br) (h4 : br ≤ 5) (i : Nat) (hi : i < (reachP bc br far [] k ss).length) : 0 ≤ (reachP bc br far [] k ss)[i]?.getD 0 ∧ (reachP bc br far [] k ss)[i]?.getD 0 < bc * br := by
  rw [List.getElem?_eq_getElem hi, Option.getD_some]
  exact cells_in h1 h2 h3 h4 _ ((List.mergeSort_perm _ _).mem_iff.1 (List.getElem_mem hi))

set_option maxHeartbeats 2000000 in
set_option maxRecDepth 100000 in
theorem reaches_c (bc br : Int) (s : ByteArray) (ss : List (Int × Int)) (far : Bool) (w : World) (hk : kindL s.toList = some (ss, far)) (hS : Small bc br) :
    Calls Try.prog 30 #[.int .i64 bc, .int .i64 br, .string s] w (Owns 3 1 (setsP bc br far ss).length (ints (natI (setsP bc br far ss))) w) := by
  obtain ⟨h1, h2, h3, h4, h9⟩ := hS
  obtain ⟨m1, m2⟩ := mul_bd h1 h2 h3 h4
  obtain ⟨n, hn⟩ : ∃ n : Nat, bc * br = (n : Int) := ⟨(bc * br).toNat, by omega⟩
  have hlen : (setsP bc br far ss).length = n := by simp [setsP, hn]
  have hn9 : n ≤ 9 := by omega
  have HX := hide (fun (k : Nat) (hkn : k < n) => show ∃ R : List Int, R.length ≤ 1000 ∧ sumPow R R.length = (setsP bc br far ss)[k]?.getD 0 ∧ (∀ i, i < R.length → 0 ≤ R[i]?.getD 0 ∧ R[i]?.getD 0 < 9) ∧ ∀ (O : Option Addr) (oc : Nat) (w5 : World), Calls Try.prog 47 #[.int .i64 bc, .int .i64 br, .string s, .int .i64 (k : Int), .slice O 0 oc] w5 (Owns 3 1 R.length (ints R) w5) by
    refine ⟨reachP bc br far [] (k : Int) ss, ?_, ?_, ?_, ?_⟩
    · have := reach_len bc br far [] (k : Int) ss
      have := (kind_ok hk).2.1
      omega
    · rw [sumPow_reach, setsP, List.getElem?_map, List.getElem?_range (by omega)]
      rfl
    · intro i hi
      have := reach_cells h1 h2 h3 h4 i hi
      omega
    · intro O oc w5
      exact specReach_c bc br k s O oc ss far [] w5 hk h1 h2 h3 h4 (by omega) (by omega) (Row.empty _ _) (by simp [maxLen]))
  rw [hlen]
  have HP := hide (fun (j : Nat) (hj : j ≤ 9) w5 => specPower9_c j hj w5)
  have e0 : IntKind.i64.wrap (bc * br) = (n : Int) := (IntWalk.i64_in _ (by omega)).trans hn
  have HN := hide hn
  clear hk hn
  have HT := hide (fun (k : Nat) (hkn : k < n) => show natI ((setsP bc br far ss).take (k + 1)) = natI ((setsP bc br far ss).take k) ++ [(((setsP bc br far ss)[k]?.getD 0 : Nat) : Int)] by
    rw [List.take_succ_eq_append_getElem (by omega), List.getElem?_eq_getElem (by omega)]
    unfold natI
    rw [List.map_append]
    rfl)
  have HTn := hide (show (setsP bc br far ss).take n = setsP bc br far ss from List.take_of_length_le (by omega))
  generalize setsP bc br far ss = L at *
  go_enter Try.func30, Try.ntmps30
  go_wp2_with fail
  go_loopw [7, 8] (fun v i wr => ∃ k : Nat, k ≤ n ∧ i = .int .i64 (k : Int) ∧ wr.ownsRow w.heap.size 3 1 v k (ints (natI (L.take k))) ∧ Below w.heap.size w wr) (fun _ i _ => n - (intOf i).toNat)
  case atStart => exact ⟨0, Nat.zero_le _, rfl, by simpa [natI, ints] using World.ownsRow_made w #[] 0 (Nat.le_refl _) (by simp [maxLen]) rfl, (Below.refl _ _).alloc (Nat.le_refl _) _⟩
  case round =>
    obtain ⟨k, hk, rfl, hown, hb⟩ := hrel
    obtain ⟨wo, rfl⟩ : ∃ wo : World, wo = wr := ⟨_, rfl⟩
    have z := hb.size
    obtain ⟨A0, c0, rfl, _⟩ := own_row hown
    by_cases hlt : k < n
    · obtain ⟨R, hRl, hRs, hRb, hRc⟩ := HX.out k hlt
      have HRB := hide (sumPow_bd R hRb)
      have HRb := hide hRb
      have HRs := hide hRs
      have HRc := hide hRc
      have HTk := hide (HT.out k hlt)
      clear hRb hRs hRc
      generalize L[k]?.getD 0 = x at *
      have hba := hb.alloc z (.cells #[] 3)
      have hva := hide (hown.alloc (.cells #[] 3))
      go_wp2_with fail
      refine (HRc.out _ _ _).mono ?_
      rintro e w5 ⟨v5, rfl, o5, b5⟩
      have bx := below_then hba hba.size b5
      have hvb := hide (own_below hva.out b5)
      obtain ⟨A5, c5, rfl, _⟩ := own_row o5
      have R5 := hide (own_reads o5)
      clear o5 b5
      go_wp2_with fail
      go_loopw [9, 11] (fun a i wi => ∃ j : Nat, j ≤ R.length ∧ i = .int .i64 (j : Int) ∧ a = .int .i64 ((sumPow R j : Nat) : Int) ∧ w5 = wi) (fun _ i _ => R.length - (intOf i).toNat)
      case atStart => exact ⟨0, Nat.zero_le _, rfl, rfl, rfl⟩
      case round =>
        obtain ⟨j, hj, rfl, rfl, rfl⟩ := hrel
        have hsb := HRB.out j hj
        by_cases hjl : j < R.length
        · obtain ⟨ad, rfl, hcj⟩ := R5.out.int (k := j) hjl
          obtain ⟨y0, y9⟩ := HRb.out j hjl
          obtain ⟨y, hy⟩ := Int.eq_ofNat_of_zero_le y0
          have HJ : Hid (sumPow R (j + 1) = sumPow R j + 2 ^ y) := by show sumPow R j + 2 ^ (R[j]?.getD 0).toNat = _; rw [hy]; rfl
          have hy9 : y ≤ 9 := by omega
          rw [hy] at hcj
          have HPy := hide (fun w5 => HP.out y hy9 w5)
          have hpb := pow9 hy9
          clear hy y0 y9
          generalize sumPow R j = a at *
          generalize 2 ^ y = p at *
          have e1 : IntKind.i64.wrap ((a : Int) + (p : Int)) = ((a + p : Nat) : Int) := (IntWalk.i64_in _ (by omega)).trans (by omega)
          have j0 : (0 : Int) ≤ (j : Int) := by omega
          have j1 : (j : Int) < (R.length : Int) := by omega
          go_wp2_with fail
          refine (HPy.out _).mono ?_
          rintro e w7 ⟨rfl, rfl⟩
          go_wp2_with fail
          exact ⟨⟨j + 1, hjl, by go_num, by rw [HJ.out]; push_cast; rfl, trivial⟩, by simp [intOf]; omega⟩
        · obtain rfl : j = R.length := by omega
          rw [HRs.out]
          have hvc := hide (hvb.out.alloc (.cells #[.int .i64 (x : Int)] 3))
          have hbc := bx.alloc bx.size (.cells #[.int .i64 (x : Int)] 3)
          go_wp2_with ((at_builtin; refine put_own rfl (.tmp 39) (.tmp 41) rfl Try.underlying27 elem_int' rfl hvc.out rfl (m := 1) (news := [.int .i64 (x : Int)]) rfl (row_new _ _ _ rfl) (by simp [Value.oneCell']) (by omega) (by omega) hbc.size ?_; intro v9 w9 own9 hg9 ho9))
          exact ⟨⟨k + 1, hlt, by go_num, by rw [HTk.out]; simpa [ints] using own9, below_grown hbc hbc.size hvc.out (Nat.le_refl _) hg9⟩, by simp [intOf]; omega⟩
    · obtain rfl : k = n := by omega
      rw [HTn.out] at hown
      go_wp2_with fail
      go_ret
      exact ⟨_, rfl, hown, hb⟩
end Go.Proofs.Ytdjkdjnbmhpokab
