
/-
  The program's queens: fitQueens, areColumns, isFree, CanStand.
-/
import Derived.Test.YtlccohoblplddadQueenB
namespace Go.Proofs.Ytlccohoblplddad
open Go.RowKit
set_option linter.unusedVariables false

theorem fitQueens_c (n : Int) (w : World) : Calls Try.prog 28 #[.int .i64 n] w fun e w' => e = .returned (.bool (decide (1 ≤ n ∧ n ≤ 6))) ∧ w = w' := by
  by_cases h1 : 1 ≤ n
  · by_cases h6 : n ≤ 6
    · have HN := hide (show decide (1 ≤ n ∧ n ≤ 6) = true from decide_eq_true ⟨h1, h6⟩)
      rw [HN.out]
      go_enter Try.func28, Try.ntmps28
      go_wp2_with fail
      go_ret
      exact ⟨rfl, rfl⟩
    · have HN := hide (show decide (1 ≤ n ∧ n ≤ 6) = false from decide_eq_false (fun h => h6 h.2))
      rw [HN.out]
      go_enter Try.func28, Try.ntmps28
      go_wp2_with fail
      go_ret
      exact ⟨rfl, rfl⟩
  · have HN := hide (show decide (1 ≤ n ∧ n ≤ 6) = false from decide_eq_false (fun h => h1 h.1))
    rw [HN.out]
    go_enter Try.func28, Try.ntmps28
    go_wp2_with fail
    go_ret
    exact ⟨rfl, rfl⟩
set_option maxHeartbeats 400000 in
theorem areColumns_c (n : Int) (A : Option Addr) (c : Nat) (l : List Int) (w : World) (hr : Row w A (ints l)) (hm : l.length ≤ 1048576) :
    Calls Try.prog 33 #[.int .i64 n, .slice A l.length c] w fun e w' => e = .returned (.bool (decide (Stand n l))) ∧ w = w' := by
  have HT := hide (fun w5 => fitQueens_c n w5)
  by_cases hn : 1 ≤ n ∧ n ≤ 6
  · have HS := hide (show decide (Stand n l) = decide ((l.length : Int) ≤ n ∧ ∀ i, i < l.length → 0 ≤ l[i]?.getD 0 ∧ l[i]?.getD 0 < n) by
      apply decide_eq_decide.2; unfold Stand; exact ⟨fun h => h.2, fun h => ⟨hn, h⟩⟩)
    rw [decide_eq_true hn] at HT
    obtain ⟨n1, n6⟩ := hn
    by_cases hlen : (l.length : Int) ≤ n
    · go_enter Try.func33, Try.ntmps33
      go_wp2_with fail
      refine (HT.out _).mono ?_
      rintro e w1 ⟨rfl, rfl⟩
      go_wp2_with fail
      go_loopw [18] (fun i wr => ∃ k : Nat, k ≤ l.length ∧ i = .int .i64 (k : Int) ∧ Hid (∀ i, i < k → 0 ≤ l[i]?.getD 0 ∧ l[i]?.getD 0 < n) ∧ w = wr) (fun i _ => l.length - (intOf i).toNat)
      case atStart => exact ⟨0, Nat.zero_le _, rfl, fun i hi => absurd hi (by omega), rfl⟩
      case round =>
        obtain ⟨k, hk, rfl, hall, rfl⟩ := hrel
        by_cases hlt : k < l.length
        · obtain ⟨ad, rfl, hc⟩ := hr.int hlt
          obtain ⟨x, hx⟩ : ∃ x, l[k]?.getD 0 = x := ⟨_, rfl⟩
          rw [hx] at hc
          have X := hide hx
          have k0 : (0 : Int) ≤ (k : Int) := by omega
          have k1 : (k : Int) < (l.length : Int) := by omega
          clear hx
          by_cases hx0 : 0 ≤ x
          · by_cases hxn : x < n
            · have HIN := hide (show 0 ≤ x ∧ x < n from ⟨hx0, hxn⟩)
              go_wp2_with fail
              exact ⟨⟨k + 1, hlt, rfl, fun i hi => by
                by_cases e : i = k
                · subst e; rw [X.out]; exact HIN.out
                · exact hall.out i (by omega), trivial⟩, by simp [intOf]; omega⟩
            · have HIN := hide (show ¬ x < n from hxn)
              go_wp2_with fail
              go_ret
              exact ⟨ret_bool (by rw [HS.out]; symm; rw [decide_eq_false_iff_not]; intro h; have := h.2 k hlt; rw [X.out] at this; have := HIN.out; omega), rfl⟩
          · have HIN := hide (show ¬ 0 ≤ x from hx0)
            go_wp2_with fail
            go_ret
            exact ⟨ret_bool (by rw [HS.out]; symm; rw [decide_eq_false_iff_not]; intro h; have := h.2 k hlt; rw [X.out] at this; have := HIN.out; omega), rfl⟩
        · have hkl : Hid (k = l.length) := hide (by omega)
          have HLN := hide hlen
          go_wp2_with fail
          go_ret
          exact ⟨ret_bool (by rw [HS.out]; symm; rw [decide_eq_true_eq]; exact ⟨HLN.out, by rw [← hkl.out]; exact hall.out⟩), rfl⟩
    · have HNS := hide (show decide (Stand n l) = false from decide_eq_false (fun h => hlen h.2.1))
      rw [HNS.out]
      go_enter Try.func33, Try.ntmps33
      go_wp2_with fail
      refine (HT.out _).mono ?_
      rintro e w1 ⟨rfl, rfl⟩
      go_wp2_with fail
      go_ret
      exact ⟨rfl, rfl⟩
  · have HNS := hide (show decide (Stand n l) = false from decide_eq_false (fun h => hn h.1))
    rw [HNS.out]
    rw [decide_eq_false hn] at HT
    clear hn
    go_enter Try.func33, Try.ntmps33
    go_wp2_with fail
    refine (HT.out _).mono ?_
    rintro e w1 ⟨rfl, rfl⟩
    go_wp2_with fail
    go_ret
    exact ⟨rfl, rfl⟩
set_option maxHeartbeats 400000 in
theorem isFree_c (A : Option Addr) (cc : Nat) (head : List Int) (c : Int) (w : World) (hr : Row w A (ints head)) (hs : Small head) (c0 : -1 ≤ c) (c1 : c ≤ 10) :
    Calls Try.prog 34 #[.slice A head.length cc, .int .i64 c] w fun e w' => e = .returned (.bool (apartP head c)) ∧ w = w' := by
  obtain ⟨hl, hb⟩ := hs
  have HB := hide hb
  have HA := hide (fun (h : apartTo head c head.length) => apart_all h)
  have HN := hide (fun (k : Nat) (hk : k < head.length) (h : withP head c k = false) => apart_not hk h)
  clear hb
  generalize apartP head c = res at *
  go_enter Try.func34, Try.ntmps34
  go_wp2_with fail
  go_loopw [10] (fun i wr => ∃ k : Nat, k ≤ head.length ∧ i = .int .i64 (k : Int) ∧ Hid (apartTo head c k) ∧ w = wr) (fun i _ => head.length - (intOf i).toNat)
  case atStart => exact ⟨0, Nat.zero_le _, rfl, fun i hi => absurd hi (by omega), rfl⟩
  case round =>
    obtain ⟨k, hk, rfl, ha, rfl⟩ := hrel
    by_cases hlt : k < head.length
    · obtain ⟨ad, rfl, hc⟩ := hr.int hlt
      obtain ⟨b0, b1⟩ := HB.out k hlt
      have hw : Hid (withP head c k = !(head[k]?.getD 0 == c || head[k]?.getD 0 - c == (head.length : Int) - (k : Int) || c - head[k]?.getD 0 == (head.length : Int) - (k : Int))) := rfl
      generalize head[k]?.getD 0 = x at *
      obtain ⟨d, hd⟩ : ∃ d : Int, (head.length : Int) - (k : Int) = d := ⟨_, rfl⟩
      rw [hd] at hw
      have ed : IntKind.i64.wrap ((head.length : Int) - (k : Int)) = d := (IntWalk.i64_in _ (by omega)).trans hd
      have k0 : (0 : Int) ≤ (k : Int) := by omega
      have k1 : (k : Int) < (head.length : Int) := by omega
      have d0 : 0 < d ∧ d ≤ 7 := by omega
      have e1 : IntKind.i64.wrap (c - d) = c - d := IntWalk.i64_in _ (by omega)
      have e2 : IntKind.i64.wrap (c + d) = c + d := IntWalk.i64_in _ (by omega)
      have s1 : Hid ((c - x == d) = (x == c - d)) := by
        show _ = _
        rw [Bool.eq_iff_iff, beq_iff_eq, beq_iff_eq]; omega
      have s2 : Hid ((x - c == d) = (x == c + d)) := by
        show _ = _
        rw [Bool.eq_iff_iff, beq_iff_eq, beq_iff_eq]; omega
      clear hd
      cases q1 : (x == c) with
      | true =>
        have hf : Hid (withP head c k = false) := by show _ = _; rw [hw.out, q1]; rfl
        clear hw
        go_wp2_with fail
        go_ret
        exact ⟨by rw [HN.out k hlt hf.out]; rfl, rfl⟩
      | false =>
        cases q2 : (x == c - d) with
        | true =>
          have hf : Hid (withP head c k = false) := by show _ = _; rw [hw.out, q1, s1.out, q2]; simp
          clear hw
          go_wp2_with fail
          go_ret
          exact ⟨by rw [HN.out k hlt hf.out]; rfl, rfl⟩
        | false =>
          cases q3 : (x == c + d) with
          | true =>
            have hf : Hid (withP head c k = false) := by show _ = _; rw [hw.out, q1, s1.out, q2, s2.out, q3]; rfl
            clear hw
            go_wp2_with fail
            go_ret
            exact ⟨by rw [HN.out k hlt hf.out]; rfl, rfl⟩
          | false =>
            have hf : Hid (withP head c k = true) := by show _ = _; rw [hw.out, q1, s1.out, q2, s2.out, q3]; rfl
            clear hw
            go_wp2_with fail
            exact ⟨⟨k + 1, hlt, rfl, fun i hi => by
              by_cases e : i = k
              · subst e; exact hf.out
              · exact ha.out i (by omega), trivial⟩, by simp [intOf]; omega⟩
    · have hkl : Hid (k = head.length) := hide (by omega)
      go_wp2_with fail
      go_ret
      exact ⟨by rw [HA.out (by rw [← hkl.out]; exact ha.out)]; rfl, rfl⟩
set_option maxHeartbeats 1000000 in
theorem implCanStand_c (n : Int) (A : Option Addr) (c : Nat) (l : List Int) (w : World) (hr : Row w A (ints l)) (hm : l.length ≤ 1048576) (hcc : l.length ≤ c) (hcm : c ≤ maxLen) :
    Calls Try.prog 13 #[.int .i64 n, .slice A l.length c] w fun e w' => e = .returned (.bool (decide (Can n l))) ∧ w = w' := by
  have HV := hide (areColumns_c n A c l w hr hm)
  unfold maxLen at hcm
  by_cases hs : Stand n l
  · rw [decide_eq_true hs] at HV
    have HC := hide (show decide (Can n l) = decide (apartsTo l l.length) by
      apply decide_eq_decide.2; unfold Can; exact ⟨fun h => h.2, fun h => ⟨hs, h⟩⟩)
    have HA := hide (fun (k : Nat) (hk : k < l.length) (A' : Option Addr) (cc : Nat) (w5 : World) (h5 : Row w5 A' (ints (l.take k))) => show Calls Try.prog 34 #[.slice A' k cc, .int .i64 (l[k]?.getD 0)] w5 fun e w' => e = .returned (.bool (apartP (l.take k) (l[k]?.getD 0))) ∧ w5 = w' by
      have := isFree_c A' cc (l.take k) (l[k]?.getD 0) w5 h5 (hs.take_small k (by omega)) (by have := hs.2.2 k hk; omega) (by have := hs.2.2 k hk; have := hs.1; omega)
      rwa [List.length_take, Nat.min_eq_left (by omega)] at this)
    clear hs
    go_enter Try.func13, Try.ntmps13
    go_wp2_with fail
    refine HV.out.mono ?_
    rintro e w1 ⟨rfl, rfl⟩
    go_wp2_with fail
    go_loopw [13] (fun i wr => ∃ k : Nat, k ≤ l.length ∧ i = .int .i64 (k : Int) ∧ Hid (apartsTo l k) ∧ w = wr) (fun i _ => l.length - (intOf i).toNat)
    case atStart => exact ⟨0, Nat.zero_le _, rfl, fun i hi => absurd hi (by omega), rfl⟩
    case round =>
      obtain ⟨k, hk, rfl, hap, rfl⟩ := hrel
      by_cases hlt : k < l.length
      · have hrk := hr.upto k
        obtain ⟨ad, rfl, hc⟩ := hr.int hlt
        have HAk := hide (HA.out k hlt (some ad) c w hrk)
        have hstep : Hid (∀ b, apartP (l.take k) (l[k]?.getD 0) = b → (b = true → apartsTo l (k + 1)) ∧ (b = false → decide (apartsTo l l.length) = false)) := fun b hb' => ⟨fun ht i hi => by
          by_cases e : i = k
          · subst e; rw [hb']; exact ht
          · exact hap.out i (by omega), fun hf => by
          rw [decide_eq_false_iff_not]
          intro h
          have := h k hlt
          rw [hb', hf] at this
          cases this⟩
        generalize hxx : l[k]?.getD 0 = x at *
        obtain ⟨b, hbv⟩ : ∃ b, apartP (l.take k) x = b := ⟨_, rfl⟩
        have hst := hstep.out b hbv
        rw [hbv] at HAk
        have HST := hide hst
        clear hxx hbv hst hstep
        have k0 : (0 : Int) ≤ (k : Int) := by omega
        have k1 : (k : Int) < (l.length : Int) := by omega
        have k2 : (k : Int) ≤ (c : Int) := by omega
        have k3 : (l.length : Int) ≤ (c : Int) := by omega
        cases b with
        | true =>
          go_wp2_with fail
          refine HAk.out.mono ?_
          rintro e w7 ⟨rfl, rfl⟩
          go_wp2_with fail
          exact ⟨⟨k + 1, hlt, rfl, HST.out.1 trivial, trivial⟩, by simp [intOf]; omega⟩
        | false =>
          go_wp2_with fail
          refine HAk.out.mono ?_
          rintro e w7 ⟨rfl, rfl⟩
          go_wp2_with fail
          go_ret
          exact ⟨ret_bool (by rw [HC.out, HST.out.2 trivial]), rfl⟩
      · have hkl : Hid (k = l.length) := hide (by omega)
        go_wp2_with fail
        go_ret
        exact ⟨ret_bool (by rw [HC.out]; symm; rw [decide_eq_true_eq, ← hkl.out]; exact hap.out), rfl⟩
  · rw [decide_eq_false hs] at HV
    have HC := hide (show decide (Can n l) = false by rw [decide_eq_false_iff_not]; exact fun h => hs h.1)
    clear hs
    go_enter Try.func13, Try.ntmps13
    go_wp2_with fail
    refine HV.out.mono ?_
    rintro e w1 ⟨rfl, rfl⟩
    go_wp2_with fail
    go_ret
    exact ⟨ret_bool HC.out.symm, rfl⟩
end Go.Proofs.Ytlccohoblplddad
