
/-
  The program's guards: sumOf, isGuard, isLoose.
-/
import Derived.Test.YtmednlgokcbdjadGuardQ
import Derived.Test.YtmednlgokcbdjadGuardB
namespace Go.Proofs.Ytmednlgokcbdjad
open Go.RowKit
set_option linter.unusedVariables false

theorem shl9 (k : Nat) (h : k ≤ 9) : IntKind.i64.wrap ((2 : Int) ^ k) = ((2 ^ k : Nat) : Int) := by
  have := pow9 h
  rw [show ((2 : Int) ^ k) = ((2 ^ k : Nat) : Int) by push_cast; rfl]
  exact IntWalk.i64_in _ (by omega)
theorem orL_snoc (l : List Int) (k : Nat) (h : k < l.length) : orL (l.take (k + 1)) = orL (l.take k) ||| 2 ^ (l[k]?.getD 0).toNat := by
  unfold orL
  rw [take_snoc _ _ h, List.foldl_append]
  rfl
theorem orL_bd (l : List Int) (hl : ∀ i, i < l.length → 0 ≤ l[i]?.getD 0 ∧ l[i]?.getD 0 < 9) : ∀ k, k ≤ l.length → orL (l.take k) < 512
  | 0, _ => by simp [orL]
  | k + 1, h => by
    rw [orL_snoc _ _ (by omega)]
    obtain ⟨h2, h3⟩ := hl k (by omega)
    exact (i64_or9 _ _ (orL_bd l hl k (by omega)) (Nat.lt_of_le_of_lt (Nat.pow_le_pow_right (by omega) (by omega : (l[k]?.getD 0).toNat ≤ 8)) (by decide))).2

set_option maxHeartbeats 1000000 in
theorem sumOf_c (A : Option Addr) (c : Nat) (l : List Int) (w : World) (hr : Row w A (ints l)) (hl : ∀ i, i < l.length → 0 ≤ l[i]?.getD 0 ∧ l[i]?.getD 0 < 9) (hm : l.length ≤ 1000) :
    Calls Try.prog 42 #[.slice A l.length c] w fun e w' => e = .returned (.int .i64 ((orL l : Nat) : Int)) ∧ w = w' := by
  have HR := hide hr
  have HL := hide hl
  clear hr hl
  go_enter Try.func42, Try.ntmps42
  go_wp2_with fail
  go_loopw [3, 8] (fun a i wr => ∃ k : Nat, k ≤ l.length ∧ i = .int .i64 (k : Int) ∧ a = .int .i64 ((orL (l.take k) : Nat) : Int) ∧ w = wr) (fun _ i _ => l.length - (intOf i).toNat)
  case atStart => exact ⟨0, Nat.zero_le _, rfl, rfl, rfl⟩
  case round =>
    obtain ⟨k, hk, rfl, rfl, rfl⟩ := hrel
    by_cases hlt : k < l.length
    · obtain ⟨ad, rfl, hck⟩ := HR.out.int (k := k) hlt
      obtain ⟨x0, x1⟩ := HL.out k hlt
      have hbd := orL_bd l HL.out k hk
      have HS := hide (orL_snoc l k hlt)
      obtain ⟨x, hx⟩ : ∃ x : Nat, l[k]?.getD 0 = (x : Int) := ⟨(l[k]?.getD 0).toNat, by omega⟩
      rw [hx] at hck HS x0 x1
      rw [Int.toNat_natCast] at HS
      have es := shl9 x (by omega)
      have px := pow9 (n := x) (by omega)
      have px : 2 ^ x < 512 := Nat.lt_of_le_of_lt (Nat.pow_le_pow_right (by omega) (by omega : x ≤ 8)) (by decide)
      have eo := (i64_or9 _ _ hbd px).1
      generalize (2 ^ x : Nat) = P at *
      generalize orL (l.take k) = b at *
      have k0 : (0 : Int) ≤ (k : Int) := by omega
      have k1 : (k : Int) < (l.length : Int) := by omega
      clear hx
      go_wp2_with fail
      exact ⟨⟨k + 1, hlt, by go_num, by rw [HS.out], trivial⟩, by simp [intOf]; omega⟩
    · obtain rfl : k = l.length := by omega
      rw [List.take_length]
      go_wp2_with fail
      go_ret
      exact ⟨rfl, rfl⟩

set_option maxHeartbeats 1000000 in
theorem isGuard_c (A : Option Addr) (c : Nat) (L : List Nat) (s : Nat) (w : World) (hr : Row w A (ints (natI L))) (hL : Sets9 L) (hs : s < 512) :
    Calls Try.prog 35 #[.slice A L.length c, .int .i64 (s : Int)] w fun e w' => e = .returned (.bool (guardQ L s)) ∧ w = w' := by
  have HL := hide hL
  have h9 := hL.len
  have HR := hide hr
  have HG : Hid (guardQ L s = guardTo L s L.length) := rfl
  have HF := hide (fun k => show guardTo L s k = false → ∀ j, k ≤ j → guardTo L s j = false from fun h j hj => by
    induction j with
    | zero => rwa [Nat.le_zero.1 hj] at h
    | succ j ih =>
      by_cases e : k = j + 1
      · rwa [e] at h
      · simp only [guardTo]; rw [ih (by omega)]; rfl)
  clear hr hL
  go_enter Try.func35, Try.ntmps35
  go_wp2_with fail
  go_loopw [9] (fun i wr => ∃ k : Nat, k ≤ L.length ∧ i = .int .i64 (k : Int) ∧ Hid (guardTo L s k = true) ∧ w = wr) (fun i _ => L.length - (intOf i).toNat)
  case atStart => exact ⟨0, Nat.zero_le _, rfl, rfl, rfl⟩
  case round =>
    obtain ⟨k, hk, rfl, hg, rfl⟩ := hrel
    by_cases hlt : k < L.length
    · obtain ⟨ad, rfl, hck⟩ := HR.out.int (k := k) (by rw [natI_len]; exact hlt)
      rw [natI_at] at hck
      have hxb := HL.out.bd k
      have HS : Hid (guardTo L s (k + 1) = (guardTo L s k && !(s &&& (L[k]?.getD 0 ||| 2 ^ k) == 0))) := rfl
      have hsk := HS.out
      rw [hg.out, Bool.true_and] at hsk
      have HS := hide hsk
      clear hsk
      have HFk := hide (fun h => HF.out (k + 1) h L.length (by omega))
      have es := shl9 k (by omega)
      have px : 2 ^ k < 512 := Nat.lt_of_le_of_lt (Nat.pow_le_pow_right (by omega) (by omega : k ≤ 8)) (by decide)
      obtain ⟨eo, bo⟩ := i64_or9 _ _ hxb px
      generalize (2 ^ k : Nat) = P at *
      generalize L[k]?.getD 0 ||| P = y at *
      obtain ⟨ea, ba⟩ := i64_and9 s y hs bo
      generalize s &&& y = z at *
      generalize L[k]?.getD 0 = x at *
      have k0 : (0 : Int) ≤ (k : Int) := by omega
      have k1 : (k : Int) < (L.length : Int) := by omega
      have k9 : (k : Int) ≤ 64 := by omega
      by_cases hz : z = 0
      · subst hz
        have HV := hide (HG.out.trans (HFk.out HS.out))
        clear HS HFk
        go_wp2_with fail
        go_ret
        exact ⟨by rw [HV.out]; rfl, rfl⟩
      · have hzi : ((z : Int) == 0) = false := by rw [beq_eq_false_iff_ne]; omega
        have hzn : (z == 0) = false := by rw [beq_eq_false_iff_ne]; exact hz
        have hv := HS.out
        rw [hzn] at hv
        have HV := hide hv
        clear hv HS HFk hzn
        go_wp2_with fail
        exact ⟨⟨k + 1, hlt, by go_num, HV.out, trivial⟩, by simp [intOf]; omega⟩
    · obtain rfl : k = L.length := by omega
      have HV := hide (HG.out.trans hg.out)
      go_wp2_with fail
      go_ret
      exact ⟨by rw [HV.out]; rfl, rfl⟩

theorem shr9 (s k : Nat) (hs : s < 512) : bits .and .i64 ((s : Int) / 2 ^ k) 1 = ((bitN s k : Nat) : Int) := by
  have h : s / 2 ^ k < 512 := Nat.lt_of_le_of_lt (Nat.div_le_self _ _) hs
  rw [show ((s : Int) / 2 ^ k) = ((s / 2 ^ k : Nat) : Int) by push_cast; rfl, show (1 : Int) = ((1 : Nat) : Int) from rfl, (i64_and9 _ 1 h (by omega)).1, Nat.and_one_is_mod]
  rfl

set_option maxHeartbeats 1000000 in
theorem isLoose_c (A : Option Addr) (c : Nat) (L : List Nat) (s : Nat) (w : World) (hr : Row w A (ints (natI L))) (hL : Sets9 L) (hs : s < 512) :
    Calls Try.prog 23 #[.slice A L.length c, .int .i64 (s : Int)] w fun e w' => e = .returned (.bool (looseP L s)) ∧ w = w' := by
  have HL := hide hL
  have h9 := hL.len
  have HR := hide hr
  have HG : Hid (looseP L s = looseTo L s L.length) := rfl
  have HF := hide (fun k => show looseTo L s k = false → ∀ j, k ≤ j → looseTo L s j = false from fun h j hj => by
    induction j with
    | zero => rwa [Nat.le_zero.1 hj] at h
    | succ j ih =>
      by_cases e : k = j + 1
      · rwa [e] at h
      · simp only [looseTo]; rw [ih (by omega)]; rfl)
  clear hr hL
  go_enter Try.func23, Try.ntmps23
  go_wp2_with fail
  go_loopw [9] (fun i wr => ∃ k : Nat, k ≤ L.length ∧ i = .int .i64 (k : Int) ∧ Hid (looseTo L s k = true) ∧ w = wr) (fun i _ => L.length - (intOf i).toNat)
  case atStart => exact ⟨0, Nat.zero_le _, rfl, rfl, rfl⟩
  case round =>
    obtain ⟨k, hk, rfl, hg, rfl⟩ := hrel
    by_cases hlt : k < L.length
    · obtain ⟨ad, rfl, hck⟩ := HR.out.int (k := k) (by rw [natI_len]; exact hlt)
      rw [natI_at] at hck
      have hxb := HL.out.bd k
      have HS : Hid (looseTo L s (k + 1) = (looseTo L s k && !(bitN s k == 1 && (L[k]?.getD 0) &&& s != 0))) := rfl
      have hsk := HS.out
      rw [hg.out, Bool.true_and] at hsk
      have HS := hide hsk
      clear hsk
      have HFk := hide (fun h => HF.out (k + 1) h L.length (by omega))
      have eb := shr9 s k hs
      rcases bitN_two s k with hb | hb
      · rw [hb] at eb HS
        have HV := hide (HS.out.trans (show (!(0 == 1 && (L[k]?.getD 0) &&& s != 0)) = true from rfl))
        generalize L[k]?.getD 0 = x at *
        have k0 : (0 : Int) ≤ (k : Int) := by omega
        have k1 : (k : Int) < (L.length : Int) := by omega
        have k9 : (k : Int) ≤ 64 := by omega
        clear HFk HS hb
        go_wp2_with fail
        exact ⟨⟨k + 1, hlt, by go_num, HV.out, trivial⟩, by simp [intOf]; omega⟩
      · rw [hb] at eb HS
        obtain ⟨ea, ba⟩ := i64_and9 s (L[k]?.getD 0) hs hxb
        rw [Nat.and_comm] at ea
        generalize (L[k]?.getD 0) &&& s = z at *
        generalize L[k]?.getD 0 = x at *
        have k0 : (0 : Int) ≤ (k : Int) := by omega
        have k1 : (k : Int) < (L.length : Int) := by omega
        have k9 : (k : Int) ≤ 64 := by omega
        by_cases hz : z = 0
        · subst hz
          have HV := hide (HS.out.trans rfl)
          clear HS HFk hb
          go_wp2_with fail
          exact ⟨⟨k + 1, hlt, by go_num, HV.out, trivial⟩, by simp [intOf]; omega⟩
        · have hzi : ((z : Int) != 0) = true := by rw [bne_iff_ne]; omega
          have hzn : (z != 0) = true := by rw [bne_iff_ne]; exact hz
          have hv := HS.out
          rw [hzn] at hv
          have HV := hide (HG.out.trans (HFk.out hv))
          clear hv HS HFk hzn hb
          go_wp2_with fail
          go_ret
          exact ⟨by rw [HV.out]; rfl, rfl⟩
    · obtain rfl : k = L.length := by omega
      have HV := hide (HG.out.trans hg.out)
      go_wp2_with fail
      go_ret
      exact ⟨by rw [HV.out]; rfl, rfl⟩
end Go.Proofs.Ytmednlgokcbdjad
