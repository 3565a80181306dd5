
/-
  The program's chases: chaseOf, has, mostFrom; CatchMoves, CatchMost, AlwaysCaught.
-/
import Derived.Test.YtakphmcelhbaiacPChaseF
import Derived.Test.YtakphmcelhbaiacPChaseD
import Derived.Test.YtakphmcelhbaiacChaseE
import Derived.Lib.MinMax
namespace Go.Proofs.Ytakphmcelhbaiac
open Go.RowKit Go.Maps
set_option linter.unusedVariables false
set_option maxRecDepth 100000

theorem fv_top {L : List Nat} {C : List (List Nat)} (hC : CatOk L C) {a b : Nat} (ha : a < L.length) (hb : b < L.length) : FV C (topN C) a b = if cAt C a b = 0 then none else some (cAt C a b - 1) := by
  have := hC.top a b ha hb
  unfold FV
  by_cases e : cAt C a b = 0
  · rw [if_pos e, if_neg (by omega)]
  · rw [if_neg e, if_pos (by omega)]
/-- The first k others: none that is not caught. -/
def freeTo (C : List (List Nat)) (i : Nat) : Nat → Bool
  | 0 => true
  | k + 1 => freeTo C i k && !(cAt C i k == 0)
theorem freeTo_no {C : List (List Nat)} {i k : Nat} (h : freeTo C i k = false) : ∀ m, freeTo C i (k + m) = false
  | 0 => h
  | m + 1 => by
    show (freeTo C i (k + m) && _) = false
    rw [freeTo_no h m]
    rfl
theorem freeTo_all {C : List (List Nat)} {i : Nat} : ∀ n, freeTo C i n = !hasZ C n i
  | 0 => rfl
  | n + 1 => by
    have ih := freeTo_all (C := C) (i := i) n
    unfold hasZ at ih ⊢
    rw [List.range_succ, List.any_append]
    show (freeTo C i n && _) = _
    rw [ih]
    simp [Bool.not_or]
/-- What a hunter needs from a cell at most, and whether it always catches the other one. -/
def MostIs (C : List (List Nat)) (n i : Nat) (w : World) (e : Ending) (w' : World) : Prop := e = .returned (.tuple #[.int .i64 ((if hasZ C n i then 0 else mostTo C i n : Nat) : Int), .bool (!hasZ C n i)]) ∧ w = w'
set_option maxHeartbeats 2000000 in
theorem mostFrom_p (A : Option Addr) (c : Nat) (L : List Nat) (C : List (List Nat)) (i bm nm : Nat) (D : DataW Unit) (w : World) (hC : CatOk L C) (h9 : L.length ≤ 9) (hi : i < L.length) (hm : OwnsP w bm nm D) (hv : ViewP D L.length (FV C (topN C))) :
    Calls Try.prog 50 #[.slice A L.length c, .int .i64 (i : Int), .map (some bm)] w (MostIs C L.length i w) := by
  have HV := hide (fun k (hk : k < L.length) => show Maps.has D (klp i k) = !(cAt C i k == 0) ∧ (cAt C i k ≠ 0 → D.atKey (klp i k) (.lit (.int .i64 0)) = .lit (.int .i64 ((cAt C i k - 1 : Nat) : Int))) by
    obtain ⟨h1, h2⟩ := hv.2 i k hi hk
    rw [fv_top hC hi hk] at h1 h2
    by_cases e : cAt C i k = 0
    · rw [if_pos e] at h1
      exact ⟨by rw [h1, e]; rfl, fun h => absurd e h⟩
    · rw [if_neg e] at h1 h2
      exact ⟨by rw [h1, beq_eq_false_iff_ne.2 e]; rfl, fun _ => h2⟩)
  have HK := hide (fun k (hk : k < L.length) => keyP (h := i) (o := k) (by omega) (by omega))
  have HFS : Hid (∀ k, freeTo C i (k + 1) = (freeTo C i k && !(cAt C i k == 0))) := fun k => rfl
  have HFN := hide (fun k (hk : k < L.length) (h : freeTo C i (k + 1) = false) => show freeTo C i L.length = false by
    have := freeTo_no h (L.length - (k + 1))
    rwa [show k + 1 + (L.length - (k + 1)) = L.length by omega] at this)
  have HFA := hide (freeTo_all (C := C) (i := i) L.length)
  have HMS : Hid (∀ k, mostTo C i (k + 1) = max (mostTo C i k) (cAt C i k - 1)) := fun k => rfl
  have HMB := hide (fun k (hk : k < L.length) => show cAt C i k ≤ 5 from Nat.le_trans (hC.top i k hi hk) hC.low.2)
  have HM := hide hm
  clear hv hC hm
  go_enter Try.func50, Try.ntmps50
  go_wp2_with fail
  go_loopw [8, 14] (fun mv kv wr => ∃ k : Nat, k ≤ L.length ∧ kv = .int .i64 (k : Int) ∧ mv = .int .i64 ((mostTo C i k : Nat) : Int) ∧ mostTo C i k ≤ 5 ∧ Hid (freeTo C i k = true) ∧ w = wr) (fun _ kv _ => L.length - (intOf kv).toNat)
  case atStart => exact ⟨0, Nat.zero_le _, rfl, rfl, Nat.zero_le _, rfl, rfl⟩
  case round =>
    obtain ⟨k, hk, rfl, rfl, hm5, hfr, rfl⟩ := hrel
    by_cases hkl : k < L.length
    · obtain ⟨hhas, hat⟩ := HV.out k hkl
      have hkey := HK.out k hkl
      have hms := hide (HMS.out k)
      have hfs := hide (HFS.out k)
      have hmb := HMB.out k hkl
      have HKL := hide hkl
      have k1 : (k : Int) < (L.length : Int) := by omega
      have hown := HM.out
      obtain ⟨x, hx⟩ : ∃ x, cAt C i k = x := ⟨_, rfl⟩
      rw [hx] at hhas hat hms hfs hmb
      obtain ⟨m, hm⟩ : ∃ m, mostTo C i k = m := ⟨_, rfl⟩
      rw [hm] at hms hm5 ⊢
      clear hx hm
      by_cases hz : x = 0
      · subst hz
        have hb : (!((0 : Nat) == 0)) = false := rfl
        rw [hb] at hhas
        have HF := hide (HFN.out k hkl (by rw [hfs.out, hfr.out]; rfl))
        have HZ := hide (show hasZ C L.length i = true by
          have := HFA.out.symm.trans HF.out
          simpa using this)
        clear hat hfs hms hb
        go_wp2_with ((at_lookup; refine wpList_lookup_own_ok_int _ rfl _ _ 42 rfl 45 3 .i64 mlawP Try.underlying42 Try.underlying3 (mzeroP _) bm nm D rfl hown _ _ rfl hkey ?_; intro c0 hc0 hwc0; rw [hhas]; clear hc0 hwc0))
        go_ret2
        exact ⟨by rw [HZ.out]; rfl, rfl⟩
      · have hb : (!(x == 0)) = true := by rw [beq_eq_false_iff_ne.2 hz]; rfl
        rw [hb] at hhas
        have hat := hat hz
        have HF : Hid (freeTo C i (k + 1) = true) := by show _ = _; rw [hfs.out, hfr.out, hb]; rfl
        obtain ⟨y, hy⟩ : ∃ y, x - 1 = y := ⟨_, rfl⟩
        rw [hy] at hat hms
        obtain ⟨z, hz2⟩ : ∃ z, mostTo C i (k + 1) = z := ⟨_, rfl⟩
        rw [hz2] at hms
        have HZ := hide hz2
        have hmx : max (m : Int) (y : Int) = (z : Int) := by have := hms.out; omega
        have hz5 : z ≤ 5 := by have := hms.out; omega
        clear hfs hms hb hz hz2
        go_wp2_with ((at_lookup; refine wpList_lookup_own_ok_int _ rfl _ _ 42 rfl 45 3 .i64 mlawP Try.underlying42 Try.underlying3 (mzeroP _) bm nm D rfl hown _ _ rfl hkey ?_; intro c0 hc0 hwc0; rw [hhas]; rw [hat] at hc0; injection hc0 with hc0; injection hc0 with _ hc0; subst hc0; clear hwc0))
        exact ⟨⟨k + 1, HKL.out, by go_num, by rw [HZ.out], by rw [HZ.out]; exact hz5, HF.out, trivial⟩, by simp [intOf]; omega⟩
    · obtain rfl : k = L.length := by omega
      have HZ := hide (show hasZ C L.length i = false by
        have := HFA.out.symm.trans hfr.out
        simpa using this)
      go_wp2_with fail
      go_ret2
      exact ⟨by rw [HZ.out]; rfl, rfl⟩
end Go.Proofs.Ytakphmcelhbaiac
