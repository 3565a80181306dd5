
/-
  Colours: the model's fits, paints, validPaint, PaintCount.
-/
import Derived.Test.YtdjkdjnbmhpokacPaintQ
import Derived.Test.YtdjkdjnbmhpokacBitA
import Derived.Test.YtdjkdjnbmhpokacGuardD
import Derived.Test.YtdjkdjnbmhpokacSpecM
namespace Go.Proofs.Ytdjkdjnbmhpokac
open Go.RowKit
set_option linter.unusedVariables false

theorem fitsTo_no {L head : List Nat} {c k : Nat} (h : fitsTo L head c k = false) : ∀ j, k ≤ j → fitsTo L head c j = false
  | 0, hj => by rwa [Nat.le_zero.1 hj] at h
  | j + 1, hj => by
    by_cases e : k = j + 1
    · rwa [e] at h
    · show (fitsTo L head c j && _) = false
      rw [fitsTo_no h j (by omega), Bool.false_and]
set_option maxHeartbeats 1000000 in
set_option maxRecDepth 100000 in
theorem fits_c (A H : Option Addr) (ca ch n : Nat) (L head : List Nat) (c : Nat) (w : World) (hlen : L.length = n) (hh : head.length < n) (h9 : Sets9 L) (hrA : Row w A (ints (natI L))) (hrH : Row w H (ints (natI head))) :
    Calls Try.prog 34 #[.slice A n ca, .slice H head.length ch, .int .i64 (c : Int)] w fun e w' => e = .returned (.bool (fitsP L head c)) ∧ w = w' := by
  have hn9 : n ≤ 9 := by have := h9.len; omega
  have HB := hide (fun k (hk : k < 9) w5 => specBit9_c (L[head.length]?.getD 0) k (h9.bd _) (by omega) w5)
  have HG : Hid (fitsP L head c = fitsTo L head c head.length) := rfl
  have HF := hide (fun k (h : fitsTo L head c k = false) j (hj : k ≤ j) => fitsTo_no h j hj)
  have HS : Hid (∀ k, fitsTo L head c (k + 1) = (fitsTo L head c k && !(head[k]?.getD 0 == c && bitN (L[head.length]?.getD 0) k == 1))) := fun k => rfl
  obtain ⟨ad, rfl, hcA⟩ := hrA.int (k := head.length) (by rw [natI_len]; omega)
  rw [natI_at] at hcA
  have HL := hide (natI_len head)
  have HR := hide hrH
  have HLN := hide hlen
  generalize L[head.length]?.getD 0 = y at *
  clear hrA hrH hlen h9
  go_enter Try.func34, Try.ntmps34
  go_wp2_with fail
  go_loopw [7] (fun i wr => ∃ k : Nat, k ≤ head.length ∧ i = .int .i64 (k : Int) ∧ Hid (fitsTo L head c k = true) ∧ w = wr) (fun i _ => head.length - (intOf i).toNat)
  case atStart => exact ⟨0, Nat.zero_le _, rfl, rfl, rfl⟩
  case round =>
    obtain ⟨k, hk, rfl, hf, rfl⟩ := hrel
    by_cases hlt : k < head.length
    · obtain ⟨ah, rfl, hcH⟩ := HR.out.int (k := k) (by rw [HL.out]; exact hlt)
      rw [natI_at] at hcH
      have HSk := hide ((HS.out k).trans (by rw [hf.out, Bool.true_and]))
      have HBk := hide (HB.out k (by omega))
      obtain ⟨x, hx⟩ : ∃ x, head[k]?.getD 0 = x := ⟨_, rfl⟩
      rw [hx] at hcH HSk
      have k0 : (0 : Int) ≤ (k : Int) := by omega
      have k1 : (k : Int) < (head.length : Int) := by omega
      have l0 : (0 : Int) ≤ (head.length : Int) := by omega
      have l1 : (head.length : Int) < (n : Int) := by omega
      clear hx
      by_cases hxc : x = c
      · have hxb : ((x : Int) == (c : Int)) = true := by rw [beq_iff_eq]; omega
        have HSk := hide (HSk.out.trans (by rw [show (x == c) = true by rw [beq_iff_eq]; exact hxc, Bool.true_and]))
        clear hxc
        rcases bitN_two y k with hb | hb
        · rw [hb] at HBk HSk
          have HV := hide (HSk.out.trans rfl)
          clear hb
          go_wp2_with fail
          refine (HBk.out _).mono ?_
          rintro e w1 ⟨rfl, rfl⟩
          go_wp2_with fail
          exact ⟨⟨k + 1, hlt, by go_num, HV.out, trivial⟩, by simp [intOf]; omega⟩
        · rw [hb] at HBk HSk
          have HV := hide (HG.out.trans (HF.out (k + 1) (HSk.out.trans rfl) head.length hlt))
          clear hb
          go_wp2_with fail
          refine (HBk.out _).mono ?_
          rintro e w1 ⟨rfl, rfl⟩
          go_wp2_with fail
          go_ret
          exact ⟨by rw [HV.out]; rfl, rfl⟩
      · have hxb : ((x : Int) == (c : Int)) = false := by rw [beq_eq_false_iff_ne]; omega
        have HV := hide (HSk.out.trans (show (!(x == c && bitN y k == 1)) = true by rw [show (x == c) = false by rw [beq_eq_false_iff_ne]; exact hxc]; rfl))
        clear hxc HSk
        go_wp2_with fail
        exact ⟨⟨k + 1, hlt, by go_num, HV.out, trivial⟩, by simp [intOf]; omega⟩
    · obtain rfl : k = head.length := by omega
      have HV := hide (HG.out.trans hf.out)
      go_wp2_with fail
      go_ret
      exact ⟨by rw [HV.out]; rfl, rfl⟩
theorem natI_snocP (l : List Nat) (k : Nat) : natI (l ++ [k]) = natI l ++ [(k : Int)] := by simp [natI]
/-- The sum over the first colours. -/
def paintTo (L : List Nat) (k m : Nat) (head : List Nat) (c : Nat) : Nat := sumN (fun c => if fitsP L head c then paintsP L k m (head ++ [c]) else 0) c
theorem paintTo_le (L : List Nat) {k : Nat} (m : Nat) (head : List Nat) {c : Nat} (hk : k ≤ 4) (hm : m ≤ 9) (hc : c ≤ 4) : paintTo L k m head c ≤ 4 * 262144 := by
  have h4 : k ^ m ≤ 262144 := Nat.le_trans (Nat.pow_le_pow_left hk m) (Nat.le_trans (Nat.pow_le_pow_right (by omega) hm) (by decide))
  refine Nat.le_trans (sumN_le (B := 262144) (fun i _ => ?_)) (Nat.mul_le_mul_right _ hc)
  split
  · exact Nat.le_trans (paints_le L k m _) h4
  · omega
end Go.Proofs.Ytdjkdjnbmhpokac
