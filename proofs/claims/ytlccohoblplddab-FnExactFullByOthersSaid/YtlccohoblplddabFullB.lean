
/-
  FullByOthers of the program and of the model.
-/
import Derived.Test.YtlccohoblplddabFullA
import Derived.Deep.RegionHeld3
namespace Go.Proofs.Ytlccohoblplddab
open Go.RowKit
set_option linter.unusedVariables false

def fullR (l : List Int) : Int := if Seats l then fullV l else -1
/-- What the walks know of the sum: its terms. -/
structure Terms (n : Nat) (CT : List Int) (V : Int) (C : Nat → Nat) (T : Nat → Int) : Prop where
  len : CT.length = n + 1
  at_ : ∀ k, k ≤ n → CT[k]?.getD 0 = ((C k : Nat) : Int)
  small : ∀ k, C k ≤ 7776
  even : ∀ k, k % 2 = 0 → T k = ((C k * fact (n - k) : Nat) : Int)
  odd : ∀ k, k % 2 = 1 → T k = - ((C k * fact (n - k) : Nat) : Int)
  sign : ∀ k, T k = sgn k * ((C k * fact (n - k) : Nat) : Int)
  total : V = sumK T (n + 1)
theorem terms_of {l : List Int} (h : Seats l) : ∃ C T, Terms l.length (countsP (othersP l)) (fullV l) C T := by
  have hol : (othersP l).length = l.length := by simp [othersP]
  refine ⟨fun k => rk (natsP (othersP l)) 0 k, fun k => sgn k * ((rk (natsP (othersP l)) 0 k * fact (l.length - k) : Nat) : Int), ?_⟩
  refine ⟨by rw [counts_len, hol], fun k hk => counts_at _ k (by rw [hol]; exact hk), fun k => ?_, fun k hk => ?_, fun k hk => ?_, fun k => rfl, rfl⟩
  · refine Nat.le_trans (rk_bd _ _ _) ?_
    rw [nats_len, hol]
    exact six5 h.1.2
  · simp only [sgn, if_pos hk, Int.one_mul]
  · simp only [sgn, if_neg (show ¬ k % 2 = 0 by omega), Int.neg_mul, Int.one_mul]
theorem fact_succ (n : Nat) : fact (n + 1) = (n + 1) * fact n := rfl
theorem prodF_bd {a b : Nat} (ha : a ≤ 7776) (hb : b ≤ 720) : a * b ≤ 6000000 := Nat.le_trans (Nat.mul_le_mul ha hb) (by decide)

set_option maxHeartbeats 1000000 in
theorem implFullByOthers_c (A : Option Addr) (c : Nat) (l : List Int) (w : World) (hr : Row w A (ints l)) (hm : l.length ≤ maxLen) :
    Calls Try.prog 9 #[.slice A l.length c] w (Plain (.int .i64 (fullR l)) w) := by
  have HV := hide (implValidSeats_c A c l w hr hm)
  unfold fullR
  by_cases hs : Seats l
  · rw [decide_eq_true hs] at HV
    rw [if_pos hs]
    obtain ⟨h1, h5⟩ := hs.1
    obtain ⟨C, T, ht⟩ := terms_of hs
    have hol : (othersP l).length = l.length := by simp [othersP]
    have HO := hide (fun (w5 : World) (h5' : Row w5 A (ints l)) => otherSeats_c A c l w5 h5' hs)
    have HR := hide (fun (A' : Option Addr) (c' : Nat) (w5 : World) (h5' : Row w5 A' (ints (othersP l))) => rooksByRow_c A' c' (othersP l) w5 h5' hs.others)
    rw [hol] at HR
    have HT := hide ht
    clear hs hm ht hol
    generalize countsP (othersP l) = CT at *
    generalize othersP l = OL at *
    generalize fullV l = V at *
    go_enter Try.func9, Try.ntmps9
    go_wp2_with fail
    refine HV.out.mono ?_
    rintro e w1 ⟨rfl, b1⟩
    go_wp2_with fail
    refine (HO.out _ (hr.below b1)).mono ?_
    rintro e w2 ⟨v2, rfl, o2, b2⟩
    obtain ⟨A2, c2, rfl, _⟩ := own_row o2
    have b2 := below_then b1 b1.size b2
    go_wp2_with fail
    refine (HR.out _ _ _ (own_reads o2)).mono ?_
    rintro e w3 ⟨v3, rfl, o3, b3⟩
    obtain ⟨g3, c3, rfl, _⟩ := own_one o3 (by omega)
    have b3 := below_then b2 b2.size b3
    clear o2
    go_wp2_with fail
    go_loopw [4, 5, 6] (fun a p i wr => ∃ (j : Nat) (s : Int), j ≤ l.length + 1 ∧ i = .int .i64 ((j : Int) - 1) ∧ p = .int .i64 ((fact (l.length + 1 - j) : Nat) : Int) ∧ a = .int .i64 s ∧ Hid (s + sumK T j = V) ∧ -6000000 * ((l.length + 1 - j : Nat) : Int) ≤ s ∧ s ≤ 6000000 * ((l.length + 1 - j : Nat) : Int) ∧ w3 = wr) (fun _ _ i _ => (intOf i + 1).toNat)
    case atStart => exact ⟨l.length + 1, 0, Nat.le_refl _, by push_cast; simp, by simp [fact], rfl, by show 0 + _ = _; rw [Int.zero_add]; exact HT.out.total.symm, by simp, by simp, rfl⟩
    case round =>
      obtain ⟨j, s, hj, rfl, rfl, rfl, hsv, s1, s2, rfl⟩ := hrel
      rcases Nat.eq_zero_or_pos j with h0 | h0
      · subst h0
        have hneg : ¬ (0 : Int) ≤ ((0 : Nat) : Int) - 1 := by omega
        have hV : Hid (s = V) := by have := hsv.out; rw [sumK, Int.add_zero] at this; exact this
        go_wp2_with fail
        go_ret
        exact ⟨by rw [← hV.out]; rfl, b3⟩
      · obtain ⟨k, rfl⟩ : ∃ k, j = k + 1 := ⟨j - 1, by omega⟩
        have hkn : k ≤ l.length := by omega
        have hjj : ((k + 1 : Nat) : Int) - 1 = (k : Int) := by omega
        rw [hjj, show l.length + 1 - (k + 1) = l.length - k by omega]
        rw [show l.length + 1 - (k + 1) = l.length - k by omega] at s1 s2
        clear hjj
        have hck := o3.cellAt k (by omega)
        rw [at_ints (by rw [HT.out.len]; omega), HT.out.at_ k hkn] at hck
        have hcb := HT.out.small k
        have hfb := fact_bd ⟨l.length - k, by omega⟩
        have hfb2 := fact_bd ⟨l.length - k + 1, by omega⟩
        simp only at hfb hfb2
        have hfs := hide (fact_succ (l.length - k))
        have hsum := hide (show s + (sumK T k + T k) = V from hsv.out)
        have hev := hide (HT.out.even k)
        have hod := hide (HT.out.odd k)
        have hd2 := hide (show l.length + 1 - k = l.length - k + 1 by omega)
        obtain ⟨d, hd⟩ : ∃ d, l.length - k = d := ⟨_, rfl⟩
        rw [hd] at s1 s2 hfb hfb2 hfs hev hod hd2 ⊢
        rw [hfs.out] at hfb2
        generalize hF : fact d = F at *
        generalize hC : C k = cC at *
        have htb := prodF_bd hcb hfb.2
        obtain ⟨t, hte⟩ : ∃ t, cC * F = t := ⟨_, rfl⟩
        obtain ⟨F2, hF2⟩ : ∃ F2, (d + 1) * F = F2 := ⟨_, rfl⟩
        rw [hte] at htb hev hod
        rw [hF2] at hfb2 hfs
        have k0 : (0 : Int) ≤ (k : Int) := by omega
        have k1 : (k : Int) < ((l.length + 1 : Nat) : Int) := by omega
        have k1' : (k : Int) < (l.length : Int) + 1 := by omega
        have e1 : IntKind.i64.wrap ((cC : Int) * (F : Int)) = (t : Int) := by
          have : (cC : Int) * (F : Int) = (t : Int) := by rw [← hte, Int.natCast_mul]
          rw [this]; exact IntWalk.i64_in _ (by omega)
        have e2 : IntKind.i64.wrap ((l.length : Int) - (k : Int)) = (d : Int) := (IntWalk.i64_in _ (by omega)).trans (by omega)
        obtain ⟨d1, hd1⟩ : ∃ d1, d + 1 = d1 := ⟨_, rfl⟩
        have e3 : IntKind.i64.wrap ((d : Int) + 1) = (d1 : Int) := (IntWalk.i64_in _ (by omega)).trans (by omega)
        have e4 : IntKind.i64.wrap ((F : Int) * (d1 : Int)) = (F2 : Int) := by
          have : (F : Int) * (d1 : Int) = (F2 : Int) := by rw [← hF2, ← hd1, Int.natCast_mul, Int.mul_comm]
          rw [this]; exact IntWalk.i64_in _ (by omega)
        have e5 : IntKind.i64.wrap (s + (t : Int)) = s + (t : Int) := IntWalk.i64_in _ (by omega)
        have e6 : IntKind.i64.wrap (s - (t : Int)) = s - (t : Int) := IntWalk.i64_in _ (by omega)
        have hdd := hide hd
        have hdd1 := hide hd1
        clear hte hF2 hd hd1 hF hC
        rcases Nat.mod_two_eq_zero_or_one k with hp | hp
        · have ht1 := hev.out hp
          have m1 : Int.tmod (k : Int) 2 = 0 := by rw [Int.tmod_eq_emod_of_nonneg k0]; omega
          have m2 : (k : Int) % 2 = 0 := by omega
          have hsum2 : Hid (s + (t : Int) + sumK T k = V) := by have := hsum.out; rw [ht1] at this; show _ = _; omega
          clear hp ht1 hsum
          go_wp2_with fail
          exact ⟨⟨k, s + (t : Int), by omega, rfl, by rw [hd2.out, hfs.out], rfl, hsum2.out, by rw [hd2.out]; push_cast; omega, by rw [hd2.out]; push_cast; omega, trivial⟩, by simp [intOf]⟩
        · have ht1 := hod.out hp
          have m1 : Int.tmod (k : Int) 2 = 1 := by rw [Int.tmod_eq_emod_of_nonneg k0]; omega
          have m2 : (k : Int) % 2 = 1 := by omega
          have hsum2 : Hid (s - (t : Int) + sumK T k = V) := by have := hsum.out; rw [ht1] at this; show _ = _; omega
          clear hp ht1 hsum
          go_wp2_with fail
          exact ⟨⟨k, s - (t : Int), by omega, rfl, by rw [hd2.out, hfs.out], rfl, hsum2.out, by rw [hd2.out]; push_cast; omega, by rw [hd2.out]; push_cast; omega, trivial⟩, by simp [intOf]⟩
  · rw [decide_eq_false hs] at HV
    rw [if_neg hs]
    clear hs hm hr
    go_enter Try.func9, Try.ntmps9
    go_wp2_with fail
    refine HV.out.mono ?_
    rintro e w1 ⟨rfl, b1⟩
    go_wp2_with fail
    go_ret
    exact ⟨rfl, b1⟩
end Go.Proofs.Ytlccohoblplddab
