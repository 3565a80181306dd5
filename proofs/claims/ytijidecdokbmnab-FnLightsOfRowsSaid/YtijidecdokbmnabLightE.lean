
/-
  Lights: what the model's elimination comes to; its QuietCount.
-/
import Derived.Test.YtijidecdokbmnabLightD
namespace Go.Proofs.Ytijidecdokbmnab
open Go.RowKit
set_option linter.unusedVariables false

theorem par_pow : ∀ k : Fin 12, parN (2 ^ k.val) = 1 := by decide +kernel
theorem side_pow {k : Nat} (hk : k < 12) (x : Nat) : sideN x (2 ^ k) = bitN x k := by
  have hb : bitN x k = (x.testBit k).toNat := by
    rw [Nat.testBit_eq_decide_div_mod_eq]
    unfold bitN
    rcases Nat.mod_two_eq_zero_or_one (x / 2 ^ k) with h | h <;> rw [h] <;> rfl
  have ha : 2 ^ k &&& x = if x.testBit k then 2 ^ k else 0 := Nat.eq_of_testBit_eq fun i => by
    rw [Nat.testBit_and, Nat.testBit_two_pow]
    by_cases e : k = i
    · subst e
      cases h : x.testBit k with
      | true => rw [if_pos rfl, Nat.testBit_two_pow_self]; simp
      | false => simp
    · rw [decide_eq_false e, Bool.false_and]
      cases x.testBit k with
      | true => rw [if_pos rfl, Nat.testBit_two_pow, decide_eq_false e]
      | false => simp
  unfold sideN
  rw [ha, hb]
  cases x.testBit k with
  | true => rw [if_pos rfl]; exact par_pow ⟨k, hk⟩
  | false => rw [if_neg (by simp)]; rfl
theorem side_none (x : Nat) : sideN x 0 = 0 := by unfold sideN; rw [Nat.zero_and]; rfl
theorem elim_is {w h : Nat} (hw : 1 ≤ w ∧ w ≤ 5) (hh : 1 ≤ h ∧ h ≤ 5) (h12 : w * h ≤ 12) (x : Nat) : elimX (litL w h) x (w * h) = ⟨(datL w h).rows, (datL w h).masks.map (sideN x), (datL w h).lead⟩ := by
  have hD := dat_is hw hh h12
  have hst : startX (datL w h).lit x = ⟨(datL w h).lit, (masksL (datL w h).lit.length).map (sideN x), []⟩ := by
    unfold startX masksL
    rw [List.map_map]
    congr 1
    refine List.map_congr_left fun k hk => ?_
    rw [List.mem_range, hD.len] at hk
    exact (side_pow (by omega) x).symm
  rw [hD.lit, elimX_eq, hst]
  have hm := elim_map (f := sideN x) (add := fun a b => a ^^^ b) (d := 0) (add' := fun a b => (a + b) % 2) (d' := 0) (side_xor x) (side_none x) (datL w h).lit.length (datL w h).lit (masksL (datL w h).lit.length) [] (w * h)
  rw [hm]
  have he := hD.elim
  unfold solvedM startM at he
  rw [hD.len] at he
  rw [hD.len, he]
theorem good_zero (M : List Nat) (a : Nat) : ∀ k, goodTo (M.map (sideN 0)) a k = true
  | 0 => rfl
  | k + 1 => by
    simp only [goodTo]
    rw [good_zero M a k, Bool.true_and]
    have : (M.map (sideN 0))[a + k]?.getD 0 = 0 := by
      rw [List.getElem?_map]
      cases M[a + k]? with
      | none => rfl
      | some m => show sideN 0 m = 0; unfold sideN; rw [Nat.and_zero]; rfl
    rw [this]
    rfl
def quietV (bc br : Int) : Int := if Lit12 bc br then ((2 ^ (datL bc.toNat br.toNat).quiet.length : Nat) : Int) else -1
theorem quietV_nat {w h : Nat} (hw : 1 ≤ w ∧ w ≤ 5) (hh : 1 ≤ h ∧ h ≤ 5) (h12 : w * h ≤ 12) : quietV w h = ((2 ^ (datL w h).quiet.length : Nat) : Int) := by
  unfold quietV
  rw [if_pos (lit12N hw hh h12)]
  simp only [Int.toNat_natCast]
theorem litS_none (bc br : Int) : LitS bc br 0 ↔ Lit12 bc br := ⟨fun h => h.1, fun h => ⟨h, by omega, by have := Nat.two_pow_pos (bc * br).toNat; omega⟩⟩

set_option maxHeartbeats 2000000 in
set_option maxRecDepth 100000 in
theorem specQuietCount_c (bc br : Int) (W : World) : Calls Try.prog 7 #[.int .i64 bc, .int .i64 br] W (Plain (.int .i64 (quietV bc br)) W) := by
  have HV := hide (fun w5 => validLights_c bc br 0 w5)
  by_cases hL : Lit12 bc br
  · rw [decide_eq_true ((litS_none bc br).2 hL)] at HV
    obtain ⟨w, h, x0, rfl, rfl, -, hw, hh, h12, -⟩ := litS_nat ((litS_none bc br).2 hL)
    rw [quietV_nat hw hh h12]
    have hD := dat_is hw hh h12
    have HSO := hide (fun w5 => show Calls Try.prog 15 #[.int .i64 (w : Int), .int .i64 (h : Int), .int .i64 0] w5 (Solved _ (w * h) w5) from solve_c w h 0 w5 hw hh h12 (by decide))
    rw [elim_is hw hh h12] at HSO
    have HP := hide (fun w5 => specPower12_c (datL w h).quiet.length (by have := hD.three; omega) w5)
    have hql := hD.quietlen
    have HG := hide (fun k => good_zero (datL w h).masks (datL w h).lead.length k)
    have HSO' := hide (fun w5 => show Calls Try.prog 15 #[.int .i64 (w : Int), .int .i64 (h : Int), .int .i64 0] w5 (fun e w' => ∃ (s : Nat) (v : Value) (cs : List Value), e = .returned (.tuple #[.int .i64 (s : Int), v, .bool true]) ∧ w'.ownsRow w5.heap.size 3 1 v (datL w h).quiet.length cs ∧ Below w5.heap.size w5 w') from (HSO.out w5).mono (by
      rintro e w' (⟨hg, -, -⟩ | ⟨-, v, he, ho, hb⟩)
      · exfalso
        have := HG.out (w * h - (datL w h).lead.length)
        simp only at hg
        rw [this] at hg
        cases hg
      · rw [hql] at ho
        exact ⟨_, v, _, he, ho, hb⟩))
    clear HSO HG hql hD hL hw hh
    generalize (datL w h).quiet.length = q at *
    go_enter Try.func7, Try.ntmps7
    go_wp2_with fail
    refine (HV.out _).mono ?_
    rintro e w1 ⟨rfl, rfl⟩
    go_wp2_with fail
    refine (HSO'.out _).mono ?_
    rintro e w2 ⟨s, v, cs, rfl, o2, b2⟩
    obtain ⟨A2, c2, rfl, _⟩ := own_row o2
    clear o2
    go_wp2_with fail
    refine (HP.out _).mono ?_
    rintro e w3 ⟨rfl, rfl⟩
    go_wp2_with fail
    go_ret
    exact ⟨rfl, b2⟩
  · rw [decide_eq_false (fun h => hL ((litS_none bc br).1 h))] at HV
    have hv : quietV bc br = -1 := if_neg hL
    rw [hv]
    clear hL hv
    go_enter Try.func7, Try.ntmps7
    go_wp2_with fail
    refine (HV.out _).mono ?_
    rintro e w1 ⟨rfl, rfl⟩
    go_wp2_with fail
    go_ret
    exact ⟨rfl, Below.refl _ _⟩
end Go.Proofs.Ytijidecdokbmnab
