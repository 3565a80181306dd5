
/-
  Colours: the model's fits, paints, validPaint, PaintCount.
-/
import Derived.Test.YtdjkdjnbmhpokabPaintQ
import Derived.Test.YtdjkdjnbmhpokabBitA
import Derived.Test.YtdjkdjnbmhpokabGuardD
import Derived.Test.YtdjkdjnbmhpokabSpecM
namespace Go.Proofs.Ytdjkdjnbmhpokab
open Go.RowKit
set_option linter.unusedVariables false

theorem fitsTo_no {L head : List Nat} {c k : Nat} (h : fitsTo L head c k = false) : ∀ j, k ≤ j → fitsTo L head c j = false
  | 0, hj => by rwa [Nat.le_zero.1 hj] at h
  | j + 1, hj => by
    by_cases e : k = j + 1
    · rwa [e] at h
    · show (fitsTo L head c j && _) = false
      rw [fitsTo_no h j (by omega), Bool.false_and]
set_option maxHeartbeats 1000000 in
set_option maxRecDepth 100000 in
theorem fits_c (A H : Option Addr) (ca ch n : Nat) (L head : List Nat) (c : Nat) (w : World) (hlen : L.length = n) (hh : head.length < n) (h9 : Sets9 L) (hrA : Row w A (ints (natI L))) (hrH : Row w H (ints (natI head))) :
    Calls Try.prog 46 #[.slice A n ca, .slice H head.length ch, .int .i64 (c : Int)] w fun e w' => e = .returned (.bool (fitsP L head c)) ∧ w = w' := by
  have hn9 : n ≤ 9 := by have := h9.len; omega
  have HB := hide (fun k (hk : k < 9) w5 => specBit9_c (L[head.length]?.getD 0) k (h9.bd _) (by omega) w5)
  have HG : Hid (fitsP L head c = fitsTo L head c head.length) := rfl
  have HF := hide (fun k (h : fitsTo L head c k = false) j (hj : k ≤ j) => fitsTo_no h j hj)
  have HS : Hid (∀ k, fitsTo L head c (k + 1) = (fitsTo L head c k && !(head[k]?.getD 0 == c && bitN (L[head.length]?.getD 0) k == 1))) := fun k => rfl
  obtain ⟨ad, rfl, hcA⟩ := hrA.int (k := head.length) (by rw [natI_len]; omega)
  rw [natI_at] at hcA
  have HL := hide (natI_len head)
  have HR := hide hrH
  have HLN := hide hlen
  generalize L[head.length]?.getD 0 = y at *
  clear hrA hrH hlen h9
  go_enter Try.func46, Try.ntmps46
  go_wp2_with fail
  go_loopw [7] (fun i wr => ∃ k : Nat, k ≤ head.length ∧ i = .int .i64 (k : Int) ∧ Hid (fitsTo L head c k = true) ∧ w = wr) (fun i _ => head.length - (intOf i).toNat)
  case atStart => exact ⟨0, Nat.zero_le _, rfl, rfl, rfl⟩
  case round =>
    obtain ⟨k, hk, rfl, hf, rfl⟩ := hrel
    by_cases hlt : k < head.length
    · obtain ⟨ah, rfl, hcH⟩ := HR.out.int (k := k) (by rw [HL.out]; exact hlt)
      rw [natI_at] at hcH
      have HSk := hide ((HS.out k).trans (by rw [hf.out, Bool.true_and]))
      have HBk := hide (HB.out k (by omega))
      obtain ⟨x, hx⟩ : ∃ x, head[k]?.getD 0 = x := ⟨_, rfl⟩
      rw [hx] at hcH HSk
      have k0 : (0 : Int) ≤ (k : Int) := by omega
      have k1 : (k : Int) < (head.length : Int) := by omega
      have l0 : (0 : Int) ≤ (head.length : Int) := by omega
      have l1 : (head.length : Int) < (n : Int) := by omega
      clear hx
      by_cases hxc : x = c
      · have hxb : ((x : Int) == (c : Int)) = true := by rw [beq_iff_eq]; omega
        have HSk := hide (HSk.out.trans (by rw [show (x == c) = true by rw [beq_iff_eq]; exact hxc, Bool.true_and]))
        clear hxc
        rcases bitN_two y k with hb | hb
        · rw [hb] at HBk HSk
          have HV := hide (HSk.out.trans rfl)
          clear hb
          go_wp2_with fail
          refine (HBk.out _).mono ?_
          rintro e w1 ⟨rfl, rfl⟩
          go_wp2_with fail
          exact ⟨⟨k + 1, hlt, by go_num, HV.out, trivial⟩, by simp [intOf]; omega⟩
        · rw [hb] at HBk HSk
          have HV := hide (HG.out.trans (HF.out (k + 1) (HSk.out.trans rfl) head.length hlt))
          clear hb
          go_wp2_with fail
          refine (HBk.out _).mono ?_
          rintro e w1 ⟨rfl, rfl⟩
          go_wp2_with fail
          go_ret
          exact ⟨by rw [HV.out]; rfl, rfl⟩
      · have hxb : ((x : Int) == (c : Int)) = false := by rw [beq_eq_false_iff_ne]; omega
        have HV := hide (HSk.out.trans (show (!(x == c && bitN y k == 1)) = true by rw [show (x == c) = false by rw [beq_eq_false_iff_ne]; exact hxc]; rfl))
        clear hxc HSk
        go_wp2_with fail
        exact ⟨⟨k + 1, hlt, by go_num, HV.out, trivial⟩, by simp [intOf]; omega⟩
    · obtain rfl : k = head.length := by omega
      have HV := hide (HG.out.trans hf.out)
      go_wp2_with fail
      go_ret
      exact ⟨by rw [HV.out]; rfl, rfl⟩
theorem natI_snocP (l : List Nat) (k : Nat) : natI (l ++ [k]) = natI l ++ [(k : Int)] := by simp [natI]
/-- The sum over the first colours. -/
def paintTo (L : List Nat) (k m : Nat) (head : List Nat) (c : Nat) : Nat := sumN (fun c => if fitsP L head c then paintsP L k m (head ++ [c]) else 0) c
theorem paintTo_le (L : List Nat) {k : Nat} (m : Nat) (head : List Nat) {c : Nat} (hk : k ≤ 4) (hm : m ≤ 9) (hc : c ≤ 4) : paintTo L k m head c ≤ 4 * 262144 := by
  have h4 : k ^ m ≤ 262144 := Nat.le_trans (Nat.pow_le_pow_left hk m) (Nat.le_trans (Nat.pow_le_pow_right (by omega) hm) (by decide))
  refine Nat.le_trans (sumN_le (B := 262144) (fun i _ => ?_)) (Nat.mul_le_mul_right _ hc)
  split
  · exact Nat.le_trans (paints_le L k m _) h4
  · omega
set_option maxHeartbeats 2000000 in
set_option maxRecDepth 100000 in
theorem paints_c (L : List Nat) (n k : Nat) (hlen : L.length = n) (h9 : Sets9 L) (hk : k ≤ 4) : ∀ (m : Nat) (head : List Nat), head.length + m = n → ∀ (A H : Option Addr) (ca ch : Nat) (w : World), Row w A (ints (natI L)) → Row w H (ints (natI head)) →
    Calls Try.prog 29 #[.slice A n ca, .slice H head.length ch, .int .i64 (k : Int)] w (Plain (.int .i64 (paintsP L k m head : Int)) w) := by
  intro m
  induction m with
  | zero =>
    intro head hm A H ca ch w hrA hrH
    have heq : ((head.length : Int) == (n : Int)) = true := by rw [beq_iff_eq]; omega
    have HP : Hid (paintsP L k 0 head = 1) := rfl
    clear hm hlen
    go_enter Try.func29, Try.ntmps29
    go_wp2_with fail
    go_ret
    exact ⟨by rw [HP.out]; rfl, Below.refl _ _⟩
  | succ m ih =>
    intro head hm A H ca ch w hrA hrH
    have hn9 : n ≤ 9 := by have := h9.len; omega
    have heq : ((head.length : Int) == (n : Int)) = false := by rw [beq_eq_false_iff_ne]; omega
    have HF := hide (fun c w5 h1 h2 => fits_c A H ca ch n L head c w5 hlen (by omega) h9 h1 h2)
    have HI := hide (fun (c : Nat) (A' H' : Option Addr) (ca' ch' : Nat) (w5 : World) (h1 : Row w5 A' (ints (natI L))) (h2 : Row w5 H' (ints (natI (head ++ [c])))) => show Calls Try.prog 29 #[.slice A' n ca', .slice H' (head.length + 1) ch', .int .i64 (k : Int)] w5 (Plain (.int .i64 (paintsP L k m (head ++ [c]) : Int)) w5) by
      have := ih (head ++ [c]) (by simp; omega) A' H' ca' ch' w5 h1 h2
      rwa [List.length_append] at this)
    have HB := hide (fun c (hc : c ≤ k) => paintTo_le L m head (c := c) hk (by omega) (by omega))
    have HS : Hid (∀ c, paintTo L k m head (c + 1) = paintTo L k m head c + if fitsP L head c then paintsP L k m (head ++ [c]) else 0) := fun c => rfl
    have HE : Hid (paintsP L k (m + 1) head = paintTo L k m head k) := rfl
    have HL := hide (natI_len head)
    have HRA := hide hrA
    have HRH := hide hrH
    have hl9 : head.length ≤ 9 := by omega
    have HPL := hide (fun c => show paintsP L k m (head ++ [c]) ≤ 262144 from Nat.le_trans (paints_le L k m _) (Nat.le_trans (Nat.pow_le_pow_left hk m) (Nat.le_trans (Nat.pow_le_pow_right (by omega) (by omega : m ≤ 9)) (by decide))))
    clear ih hm hlen hrA hrH
    go_enter Try.func29, Try.ntmps29
    go_wp2_with fail
    go_loopw [8, 9] (fun o i wr => ∃ c : Nat, c ≤ k ∧ i = .int .i64 (c : Int) ∧ o = .int .i64 ((paintTo L k m head c : Nat) : Int) ∧ Below w.heap.size w wr) (fun _ i _ => k - (intOf i).toNat)
    case atStart => exact ⟨0, Nat.zero_le _, rfl, rfl, Below.refl _ _⟩
    case round =>
      obtain ⟨c, hc, rfl, rfl, hb⟩ := hrel
      obtain ⟨wo, rfl⟩ : ∃ wo : World, wo = wr := ⟨_, rfl⟩
      have z := hb.size
      by_cases hlt : c < k
      · have HSc := hide (HS.out c)
        have HFc := hide (HF.out c wo (HRA.out.below hb) (HRH.out.below hb))
        have hbc := HB.out c hc
        have hbp := HPL.out c
        have HIc := hide (HI.out c)
        cases hf : fitsP L head c with
        | false =>
          rw [hf] at HSc HFc
          have HV := hide (HSc.out.trans (by rw [if_neg (by simp), Nat.add_zero]))
          clear hf HSc
          generalize paintTo L k m head c = o at *
          go_wp2_with fail
          refine HFc.out.mono ?_
          rintro e w1 ⟨rfl, rfl⟩
          go_wp2_with fail
          exact ⟨⟨c + 1, hlt, by go_num, by rw [HV.out], hb⟩, by simp [intOf]; omega⟩
        | true =>
          rw [hf] at HSc HFc
          have HV := hide (HSc.out.trans (by rw [if_pos rfl]))
          clear hf HSc
          generalize paintTo L k m head c = o at *
          generalize paintsP L k m (head ++ [c]) = p at *
          have es : IntKind.i64.wrap ((o : Int) + (p : Int)) = ((o + p : Nat) : Int) := (IntWalk.i64_in _ (by omega)).trans (by omega)
          obtain ⟨q, hq⟩ : ∃ q, o + p = q := ⟨_, rfl⟩
          rw [hq] at es HV
          have oe := World.ownsRow_made (base := wo.heap.size) (e := 3) (size := 1) wo #[] 0 (Nat.le_refl _) (by simp [maxLen]) rfl
          have hbA := (Below.refl wo.heap.size wo).alloc (Nat.le_refl _) (.cells #[] 3)
          have hrA := HRA.out.below (hb.mono (Nat.le_refl _))
          have hrH := (HRH.out.below hb).below hbA
          clear hq
          go_wp2_with fail
          refine HFc.out.mono ?_
          rintro e w1 ⟨rfl, rfl⟩
          go_wp2_with (first
            | (at_builtin; refine put_own rfl (.tmp 27) (.tmp 28) rfl Try.underlying27 elem_int' rfl oe rfl (m := head.length) (news := ints (natI head)) (by simp [HL.out]) hrH (one_ints _) (by omega) (by omega) hbA.size ?_
               intro v2 w2 own2 hg2 ho2
               have b2 := below_grown hbA hbA.size oe (Nat.le_refl _) hg2
               have own2 : w2.ownsRow wo.heap.size 3 1 v2 head.length (ints (natI head)) := by simpa using own2
               have own2a := own2.alloc (.cells #[.int .i64 (c : Int)] 3)
               have b2a := b2.alloc b2.size (.cells #[.int .i64 (c : Int)] 3))
            | (at_builtin; refine put_own rfl (.tmp 29) (.tmp 31) rfl Try.underlying27 elem_int' rfl own2a rfl (m := 1) (news := [.int .i64 (c : Int)]) rfl (row_new _ _ _ rfl) (by simp [Value.oneCell']) (by omega) (by omega) b2a.size ?_
               intro v3 w3 own3 hg3 ho3
               have b3 := below_grown b2a b2a.size own2a (Nat.le_refl _) hg3
               have own3 : w3.ownsRow wo.heap.size 3 1 v3 (head.length + 1) (ints (natI (head ++ [c]))) := by rw [natI_snocP]; simpa [ints] using own3
               obtain ⟨A3, c3, rfl, n3, m3, r3, f3⟩ := own_row own3))
          refine (HIc.out A A3 ca c3 w3 ((HRA.out.below hb).below b3) r3).mono ?_
          rintro e w4 ⟨rfl, b4⟩
          have bw4 := hide (below_then hb z (below_then b3 b3.size b4))
          clear own3 r3 oe hrA hrH b4 b3 own2 own2a b2 b2a hbA
          go_wp2_with fail
          exact ⟨⟨c + 1, hlt, by go_num, by rw [HV.out], bw4.out⟩, by simp [intOf]; omega⟩
      · obtain rfl : c = k := by omega
        go_wp2_with fail
        go_ret
        exact ⟨by rw [HE.out]; rfl, hb⟩
end Go.Proofs.Ytdjkdjnbmhpokab
