
/-
  Pegs: the model's validPegs; counts by rests.
-/
import Derived.Test.YtgbbmnnpphkkbaaLightA
import Derived.Test.YtgbbmnnpphkkbaaPegP
namespace Go.Proofs.Ytgbbmnnpphkkbaa
open Go.RowKit
set_option linter.unusedVariables false

/-- A row of natural numbers of the call's own: its cells, and one of them written. -/
theorem own_natP {W : World} {base g n c : Nat} {L : List Nat} (h : W.ownsRow base 3 1 (.slice (some ⟨g, 0, none⟩) n c) n (ints (natI L))) {k : Nat} (hk : k < n) (b : Nat) :
    W.cell? ⟨g, k, none⟩ = some (.int .i64 ((L[k]?.getD 0 : Nat) : Int)) ∧ W.frozen? ⟨g, k, none⟩ = false ∧ (W.setCell ⟨g, k, none⟩ (.int .i64 (b : Int))).ownsRow base 3 1 (.slice (some ⟨g, 0, none⟩) n c) n (ints (natI (L.set k b))) ∧ W.grownBy (W.setCell ⟨g, k, none⟩ (.int .i64 (b : Int))) (some g) := by
  have hl : L.length = n := by have := h.1; simpa [natI] using this
  have hc := h.cellAt k (by omega)
  obtain ⟨o, gr⟩ := h.stored k (.int .i64 (b : Int))
  refine ⟨?_, h.frozenAt k, ?_, gr⟩
  · rw [hc]; simp [natI, List.getElem?_eq_getElem (show k < L.length by omega)]
  · rw [show (ints (natI L)).set k (.int .i64 (b : Int)) = ints (natI (L.set k b)) by simp [natI, ints, List.map_set]] at o
    exact o
theorem own_addrP {w : World} {base e size n : Nat} {v : Value} {cs : List Value} (h : w.ownsRow base e size v n cs) (hn : 0 < n) : ∃ g c, v = .slice (some ⟨g, 0, none⟩) n c ∧ base ≤ g ∧ g < w.heap.size := by
  rcases h.2 with ⟨_, rfl⟩ | ⟨g, cap, cur, rfl, hb, hg, _⟩
  · omega
  · exact ⟨g, cap, rfl, hb, (Array.getElem?_eq_some_iff.1 hg).1⟩
theorem own_notP {w w' : World} {base e size n : Nat} {v : Value} {xs : List Value} {r : Option Nat} (h : w.ownsRow base e size v n xs) (hg : w.grownBy w' r) (hne : v.ownBlock ≠ r) : w'.ownsRow base e size v n xs := h.kept hg (.inr hne)

theorem add0P (g k : Nat) : (⟨g, 0, none⟩ : Addr).add k = ⟨g, k, none⟩ := by unfold Addr.add; split <;> simp_all
theorem brdP {w h : Nat} (hw : 1 ≤ w ∧ w ≤ 5) (hh : 1 ≤ h ∧ h ≤ 5) : Brd (w : Int) (h : Int) := ⟨by omega, by omega, by omega, by omega⟩
theorem lit12P {w h : Nat} (hw : 1 ≤ w ∧ w ≤ 5) (hh : 1 ≤ h ∧ h ≤ 5) (h12 : w * h ≤ 12) : Lit12 (w : Int) (h : Int) := ⟨brdP hw hh, by rw [← Int.natCast_mul]; omega⟩
/-- Pegs of a board. -/
def PegS (bc br s : Int) : Prop := Lit12 bc br ∧ 0 ≤ s ∧ s ≤ ((2 ^ (bc * br).toNat : Nat) : Int) - 1
instance (bc br s : Int) : Decidable (PegS bc br s) := by unfold PegS; infer_instance
set_option maxHeartbeats 1000000 in
theorem validPegs_c (bc br s : Int) (W : World) : Calls Try.prog 26 #[.int .i64 bc, .int .i64 br, .int .i64 s] W fun e w' => e = .returned (.bool (decide (PegS bc br s))) ∧ W = w' := by
  by_cases hB : Brd bc br
  · have HB := hide hB
    have HV := hide (fun w5 => validBoard_yes bc br w5 HB.out)
    obtain ⟨h1, h2, h3, h4⟩ := hB
    obtain ⟨m1, m2⟩ := mul_bd h1 h2 h3 h4
    obtain ⟨n, hn⟩ : ∃ n : Nat, bc * br = (n : Int) := ⟨(bc * br).toNat, by omega⟩
    have e0 : IntKind.i64.wrap (bc * br) = (n : Int) := (IntWalk.i64_in _ (by omega)).trans hn
    by_cases h9 : n ≤ 12
    · have he : decide (PegS bc br s) = decide (0 ≤ s ∧ s ≤ ((2 ^ n : Nat) : Int) - 1) := by
        rw [decide_eq_decide]
        unfold PegS
        rw [hn]
        simp only [Int.toNat_natCast]
        exact ⟨fun h => h.2, fun h => ⟨⟨HB.out, by omega⟩, h⟩⟩
      rw [he]
      obtain ⟨p1, p2⟩ := pow12 h9
      have HP := hide (fun w5 => specPower12_c n h9 w5)
      have HI := hide (fun w5 => inRange_c s 0 (((2 ^ n : Nat) : Int) - 1) w5)
      have n1 : (n : Int) ≤ 12 := by omega
      clear he hn m1 m2
      generalize decide (0 ≤ s ∧ s ≤ ((2 ^ n : Nat) : Int) - 1) = b at *
      generalize 2 ^ n = P at *
      have e1 : IntKind.i64.wrap ((P : Int) - 1) = (P : Int) - 1 := IntWalk.i64_in _ (by omega)
      go_enter Try.func26, Try.ntmps26
      go_wp2_with fail
      refine (HV.out _).mono ?_
      rintro e w1 ⟨rfl, rfl⟩
      go_wp2_with fail
      refine (HP.out _).mono ?_
      rintro e w1 ⟨rfl, rfl⟩
      go_wp2_with fail
      refine (HI.out _).mono ?_
      rintro e w1 ⟨rfl, rfl⟩
      go_wp2_with fail
      go_ret
      exact ⟨by cases b <;> rfl, rfl⟩
    · have he : decide (PegS bc br s) = false := decide_eq_false (fun h => h9 (by have := h.1.2; omega))
      rw [he]
      have n1 : ¬ ((n : Int) ≤ 12) := by omega
      clear he hn m1 m2
      go_enter Try.func26, Try.ntmps26
      go_wp2_with fail
      refine (HV.out _).mono ?_
      rintro e w1 ⟨rfl, rfl⟩
      go_wp2_with fail
      go_ret
      exact ⟨rfl, rfl⟩
  · have he : decide (PegS bc br s) = false := decide_eq_false (fun h => hB h.1.1)
    have HV := hide (fun w5 => validBoard_no bc br w5 hB)
    rw [he]
    clear he hB
    go_enter Try.func26, Try.ntmps26
    go_wp2_with fail
    refine (HV.out _).mono ?_
    rintro e w1 ⟨rfl, rfl⟩
    go_wp2_with fail
    go_ret
    exact ⟨rfl, rfl⟩

/-- How many pegs of one rest. -/
def cntR (f : Nat → Nat) (s q : Nat) : Nat → Nat
  | 0 => 0
  | k + 1 => cntR f s q k + (if s.testBit k && f k == q then 1 else 0)
theorem cntR_le (f : Nat → Nat) (s q : Nat) : ∀ k, cntR f s q k ≤ k
  | 0 => Nat.le_refl _
  | k + 1 => by have := cntR_le f s q k; simp only [cntR]; split <;> omega
def cntL (f : Nat → Nat) (s k : Nat) : List Nat := [cntR f s 0 k, cntR f s 1 k, cntR f s 2 k]
theorem cntL_put {f : Nat → Nat} {s k : Nat} (hf : f k < 3) (hb : s.testBit k = true) : (cntL f s k).set (f k) ((cntL f s k)[f k]?.getD 0 + 1) = cntL f s (k + 1) := by
  have : f k = 0 ∨ f k = 1 ∨ f k = 2 := by omega
  rcases this with e | e | e <;> simp [cntL, cntR, e, hb]
theorem cntL_keep {f : Nat → Nat} {s k : Nat} (hb : s.testBit k = false) : cntL f s (k + 1) = cntL f s k := by simp [cntL, cntR, hb]
theorem cntL_le {f : Nat → Nat} {s k : Nat} (i : Nat) : (cntL f s k)[i]?.getD 0 ≤ k := by
  match i with
  | 0 => exact cntR_le f s 0 k
  | 1 => exact cntR_le f s 1 k
  | 2 => exact cntR_le f s 2 k
  | i + 3 => simp [cntL]
theorem cnt_par {f : Nat → Nat} {g : Nat → Bool} {s a b : Nat} (hab : a ≠ b) (hg : ∀ i, g i = (f i == a || f i == b)) : ∀ k, (cntR f s a k + cntR f s b k) % 2 = (parC g s k).toNat
  | 0 => rfl
  | k + 1 => by
    have ih := cnt_par (s := s) hab hg k
    simp only [cntR, parC, hg k]
    cases h1 : s.testBit k
    · simp only [Bool.false_and, Bool.and_false, if_neg Bool.false_ne_true, Nat.add_zero, Bool.bne_false]; exact ih
    · by_cases h2 : f k = a
      · have h3 : ¬ f k = b := fun e => hab (h2.symm.trans e)
        simp only [h2, beq_self_eq_true, Bool.true_and, Bool.true_or, Bool.bne_true, if_true, show (a == b) = false from by simpa using hab]
        cases hp : parC g s k <;> rw [hp] at ih <;> simp at ih ⊢ <;> omega
      · by_cases h3 : f k = b
        · simp only [h3, beq_self_eq_true, Bool.true_and, Bool.or_true, Bool.bne_true, if_true, show (b == a) = false from by simpa using Ne.symm hab]
          cases hp : parC g s k <;> rw [hp] at ih <;> simp at ih ⊢ <;> omega
        · simp only [show (f k == a) = false from by simpa using h2, show (f k == b) = false from by simpa using h3, Bool.and_false, Bool.or_self, Bool.false_and, if_neg Bool.false_ne_true, Nat.add_zero, Bool.bne_false]
          exact ih
def dnF (w i : Nat) : Nat := (i / w + i % w) % 3
def upF (w i : Nat) : Nat := (i / w + 15 - i % w) % 3
/-- The class: four numbers. -/
def clsL (w n s : Nat) : List Nat := [(clsP w n s 0).toNat, (clsP w n s 1).toNat, (clsP w n s 2).toNat, (clsP w n s 3).toNat]
theorem clsL_is (w n s : Nat) : clsL w n s = [(cntR (dnF w) s 0 n + cntR (dnF w) s 1 n) % 2, (cntR (dnF w) s 1 n + cntR (dnF w) s 2 n) % 2, (cntR (upF w) s 0 n + cntR (upF w) s 1 n) % 2, (cntR (upF w) s 1 n + cntR (upF w) s 2 n) % 2] := by
  unfold clsL clsP
  rw [cnt_par (f := dnF w) (a := 0) (b := 1) (g := clsF w 0) (by decide) (fun i => rfl), cnt_par (f := dnF w) (a := 1) (b := 2) (g := clsF w 1) (by decide) (fun i => rfl), cnt_par (f := upF w) (a := 0) (b := 1) (g := clsF w 2) (by decide) (fun i => rfl), cnt_par (f := upF w) (a := 1) (b := 2) (g := clsF w 3) (by decide) (fun i => rfl)]
end Go.Proofs.Ytgbbmnnpphkkbaa
