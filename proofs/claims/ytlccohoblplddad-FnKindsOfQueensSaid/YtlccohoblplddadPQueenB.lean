
/-
  The program's queens: fullSeats, countBySets, CountQueens.
-/
import Derived.Test.YtlccohoblplddadPQueenA
import Derived.Test.YtlccohoblplddadQueenD
namespace Go.Proofs.Ytlccohoblplddad
open Go.RowKit
set_option linter.unusedVariables false

theorem full6 {n : Nat} (h1 : 1 ≤ n) (h6 : n ≤ 6) : 1 ≤ fullP n ∧ fullP n ≤ 63 := by
  obtain rfl | rfl | rfl | rfl | rfl | rfl : n = 1 ∨ n = 2 ∨ n = 3 ∨ n = 4 ∨ n = 5 ∨ n = 6 := by omega
  all_goals decide
theorem fullSeats6_c (n : Nat) (h1 : 1 ≤ n) (h6 : n ≤ 6) (w : World) : Calls Try.prog 49 #[.int .i64 (n : Int)] w fun e w' => e = .returned (.int .i64 (fullP n)) ∧ w = w' := by
  obtain rfl | rfl | rfl | rfl | rfl | rfl : n = 1 ∨ n = 2 ∨ n = 3 ∨ n = 4 ∨ n = 5 ∨ n = 6 := by omega
  all_goals
    go_enter Try.func49, Try.ntmps49
    go_wp2
    go_ret
    exact ⟨rfl, rfl⟩

/-! ### The count by sets, purely: none where it would not end or be too great -/
def okI (x : Int) : Prop := 0 ≤ x ∧ x < 100000
instance (x : Int) : Decidable (okI x) := by unfold okI; infer_instance
def lowI (free : Int) : Int := bits .and .i64 free (-free)
def nextI (free : Int) : Int := bits .and .i64 free (free - 1)
def cbGood (T Lo Hi free acc : Int) : Prop := (okI free ∧ okI acc ∧ okI (lowI free) ∧ okI (nextI free) ∧ nextI free < free) ∧ okI (bits .or .i64 Lo (lowI free)) ∧ okI (bits .or .i64 Hi (lowI free))
instance (T Lo Hi free acc : Int) : Decidable (cbGood T Lo Hi free acc) := by unfold cbGood; infer_instance
def cbRow (T Lo Hi : Int) (f : Int → Int → Int → Option Int) : Nat → Int → Int → Option Int
  | 0, _, _ => none
  | j + 1, free, acc =>
    if free = 0 then some acc else
    if cbGood T Lo Hi free acc then
      match f (bits .or .i64 T (lowI free)) (bits .or .i64 Lo (lowI free) / 2) (bits .or .i64 Hi (lowI free) * 2) with
      | none => none
      | some v => if okI v then cbRow T Lo Hi f j (nextI free) (acc + v) else none
    else none
def cbO (n : Nat) : Nat → Int → Int → Int → Option Int
  | 0, _, _, _ => none
  | k + 1, T, Lo, Hi => if T = fullP n then some 1 else cbRow T Lo Hi (cbO n k) 8 (bits .andNot .i64 (fullP n) (bits .or .i64 (bits .or .i64 T Lo) Hi)) 0
theorem cbRow_end {T Lo Hi : Int} {f : Int → Int → Int → Option Int} {j : Nat} {acc v : Int} (h : cbRow T Lo Hi f j 0 acc = some v) : acc = v := by
  cases j with
  | zero => cases h
  | succ j => rw [cbRow, if_pos rfl] at h; injection h
theorem cbRow_step {T Lo Hi : Int} {f : Int → Int → Int → Option Int} {j : Nat} {free acc v : Int} (h : cbRow T Lo Hi f j free acc = some v) (h0 : free ≠ 0) :
    cbGood T Lo Hi free acc ∧ ∃ u j', f (bits .or .i64 T (lowI free)) (bits .or .i64 Lo (lowI free) / 2) (bits .or .i64 Hi (lowI free) * 2) = some u ∧ okI u ∧ cbRow T Lo Hi f j' (nextI free) (acc + u) = some v := by
  cases j with
  | zero => cases h
  | succ j =>
    rw [cbRow, if_neg h0] at h
    by_cases hg : cbGood T Lo Hi free acc
    · rw [if_pos hg] at h
      refine ⟨hg, ?_⟩
      cases hf : f (bits .or .i64 T (lowI free)) (bits .or .i64 Lo (lowI free) / 2) (bits .or .i64 Hi (lowI free) * 2) with
      | none => rw [hf] at h; cases h
      | some u =>
        rw [hf] at h
        simp only at h
        by_cases hu : okI u
        · rw [if_pos hu] at h; exact ⟨u, j, rfl, hu, h⟩
        · rw [if_neg hu] at h; cases h
    · rw [if_neg hg] at h; cases h

set_option maxHeartbeats 2000000 in
set_option maxRecDepth 100000 in
theorem countBySets_c (n : Nat) (h1 : 1 ≤ n) (h6 : n ≤ 6) : ∀ (k : Nat) (T Lo Hi v : Int), cbO n k T Lo Hi = some v → ∀ w : World,
    Calls Try.prog 35 #[.int .i64 (n : Int), .int .i64 T, .int .i64 Lo, .int .i64 Hi] w fun e w' => e = .returned (.int .i64 v) ∧ w = w' := by
  intro k
  induction k with
  | zero => intro T Lo Hi v h; cases h
  | succ k ih =>
    intro T Lo Hi v h w
    have HF := hide (fun w5 => fullSeats6_c n h1 h6 w5)
    have hb := full6 h1 h6
    rw [cbO] at h
    by_cases hT : T = fullP n
    · rw [if_pos hT] at h
      injection h with h
      clear ih
      subst h
      generalize fullP n = F at *
      subst hT
      go_enter Try.func35, Try.ntmps35
      go_wp2_with fail
      refine (HF.out _).mono ?_
      rintro e w1 ⟨rfl, rfl⟩
      go_wp2_with fail
      go_ret
      exact ⟨rfl, rfl⟩
    · rw [if_neg hT] at h
      have HE := hide h
      have HI := hide (fun T Lo Hi v h w => ih T Lo Hi v h w)
      have hTb : (T == fullP n) = false := by rw [beq_eq_false_iff_ne]; exact hT
      clear ih h hT
      generalize fullP n = F at *
      go_enter Try.func35, Try.ntmps35
      go_wp2_with fail
      refine (HF.out _).mono ?_
      rintro e w1 ⟨rfl, rfl⟩
      go_wp2_with fail
      refine (HF.out _).mono ?_
      rintro e w1 ⟨rfl, rfl⟩
      go_wp2_with fail
      go_loopw [9, 10] (fun s f wr => ∃ (j : Nat) (acc free : Int), s = .int .i64 acc ∧ f = .int .i64 free ∧ Hid (cbRow T Lo Hi (cbO n k) j free acc = some v) ∧ w = wr) (fun _ f _ => (intOf f).toNat)
      case atStart => exact ⟨8, 0, _, rfl, rfl, HE.out, rfl⟩
      case round =>
        obtain ⟨j, acc, free, rfl, rfl, hrun, rfl⟩ := hrel
        by_cases h0 : free = 0
        · subst h0
          have hv := hide (cbRow_end hrun.out)
          go_wp2_with fail
          go_ret
          exact ⟨by rw [← hv.out]; rfl, rfl⟩
        · obtain ⟨⟨⟨g1, g2, g3, g4, g5⟩, g6, g7⟩, u, j', hf, hu, hrest⟩ := cbRow_step hrun.out h0
          have hl : bits .and .i64 free (-free) = lowI free := rfl
          have hn : bits .and .i64 free (free - 1) = nextI free := rfl
          obtain ⟨c, hc⟩ : ∃ c, lowI free = c := ⟨_, rfl⟩
          obtain ⟨fr, hfr⟩ : ∃ fr, nextI free = fr := ⟨_, rfl⟩
          rw [hc] at hl hf g3 g6 g7
          rw [hfr] at hn hrest g4 g5
          obtain ⟨T', hT'⟩ : ∃ T', bits .or .i64 T c = T' := ⟨_, rfl⟩
          obtain ⟨Lo', hLo'⟩ : ∃ Lo', bits .or .i64 Lo c = Lo' := ⟨_, rfl⟩
          obtain ⟨Hi', hHi'⟩ : ∃ Hi', bits .or .i64 Hi c = Hi' := ⟨_, rfl⟩
          rw [hT', hLo', hHi'] at hf
          rw [hLo'] at g6
          rw [hHi'] at g7
          have HC := hide (HI.out _ _ _ _ hf w)
          have HR := hide hrest
          clear hc hfr hf hrest hrun
          unfold okI at *
          go_wp2_with fail
          refine HC.out.mono ?_
          rintro e w1 ⟨rfl, rfl⟩
          go_wp2_with fail
          exact ⟨⟨j', acc + u, fr, rfl, rfl, HR.out, trivial⟩, by simp [intOf]; omega⟩

theorem sets_facts : ∀ n : Fin 7, 1 ≤ n.val → cbO n.val 7 0 0 0 = some ((queensP n.val n.val []).length : Int) := by decide +kernel
theorem implCountQueens_c (n : Int) (w : World) : Calls Try.prog 15 #[.int .i64 n] w fun e w' => e = .returned (.int .i64 (countP n)) ∧ w = w' := by
  have HT := hide (fun w5 => fitQueens_c n w5)
  by_cases h : 1 ≤ n ∧ n ≤ 6
  · rw [decide_eq_true h] at HT
    obtain ⟨k, rfl⟩ := Int.eq_ofNat_of_zero_le (show 0 ≤ n by omega)
    have HL : Hid (countP (k : Int) = ((queensP k k []).length : Int)) := by show _ = _; unfold countP; rw [if_pos h]; rfl
    have HQ := hide (fun w5 => countBySets_c k (by omega) (by omega) 7 0 0 0 ((queensP k k []).length : Int) (sets_facts ⟨k, by omega⟩ (by show 1 ≤ k; omega)) w5)
    rw [HL.out]
    clear h
    go_enter Try.func15, Try.ntmps15
    go_wp2_with fail
    refine (HT.out _).mono ?_
    rintro e w1 ⟨rfl, rfl⟩
    go_wp2_with fail
    refine (HQ.out _).mono ?_
    rintro e w1 ⟨rfl, rfl⟩
    go_wp2_with fail
    go_ret
    exact ⟨rfl, rfl⟩
  · rw [decide_eq_false h] at HT
    have HL : Hid (countP n = -1) := by show _ = _; unfold countP; rw [if_neg h]
    rw [HL.out]
    clear h
    go_enter Try.func15, Try.ntmps15
    go_wp2_with fail
    refine (HT.out _).mono ?_
    rintro e w1 ⟨rfl, rfl⟩
    go_wp2_with fail
    go_ret
    exact ⟨rfl, rfl⟩
end Go.Proofs.Ytlccohoblplddad
