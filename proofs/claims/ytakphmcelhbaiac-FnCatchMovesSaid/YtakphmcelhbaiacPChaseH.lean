
/-
  The program's chases: CatchMoves.
-/
import Derived.Test.YtakphmcelhbaiacPChaseE
namespace Go.Proofs.Ytakphmcelhbaiac
open Go.RowKit Go.Maps
set_option linter.unusedVariables false
set_option maxRecDepth 100000

set_option maxHeartbeats 400000 in
theorem chas_c (A : Option Addr) (c n : Nat) (i : Int) (w : World) : Calls Try.prog 17 #[.slice A n c, .int .i64 i] w fun e w' => e = .returned (.bool (decide (0 ≤ i ∧ i < (n : Int)))) ∧ w = w' := by
  by_cases h : 0 ≤ i
  · by_cases h2 : i < (n : Int)
    · rw [decide_eq_true ⟨h, h2⟩]
      go_enter Try.func17, Try.ntmps17
      go_wp2_with fail
      go_ret
      exact ⟨rfl, rfl⟩
    · rw [decide_eq_false (fun x => h2 x.2)]
      go_enter Try.func17, Try.ntmps17
      go_wp2_with fail
      go_ret
      exact ⟨rfl, rfl⟩
  · rw [decide_eq_false (fun x => h x.1)]
    go_enter Try.func17, Try.ntmps17
    go_wp2_with fail
    go_ret
    exact ⟨rfl, rfl⟩
set_option maxHeartbeats 2000000 in
theorem implCatchMoves_c (bc br : Int) (s : ByteArray) (i k : Int) (W : World) : Calls Try.prog 6 #[.int .i64 bc, .int .i64 br, .string s, .int .i64 i, .int .i64 k] W (Plain (.int .i64 (catchV bc br s.toList i k)) W) := by
  unfold catchV
  cases hk : smallK bc br s.toList with
  | none =>
    have H := hide (chaseOf_no bc br s W hk)
    clear hk
    go_enter Try.func6, Try.ntmps6
    go_wp2_with fail
    refine H.out.mono ?_
    rintro e w1 ⟨rfl, b1⟩
    go_wp2_with fail
    go_ret
    exact ⟨rfl, b1⟩
  | some p =>
    obtain ⟨ss, far⟩ := p
    obtain ⟨hS, hkk⟩ := smallK_some hk
    have H := hide (chaseOf_yes bc br s W hkk hS)
    obtain ⟨n, hC⟩ := chase_of hS hkk
    have hok := cat_ok hC.tab
    have h9s := hC.sets
    have hlen := hC.len
    have hn1 := hC.one
    have hn9 := hC.nine
    have hsz := hC.size
    simp only
    clear hk hS hkk hC
    generalize setsP bc br far ss = L at *
    generalize catN L = C at *
    subst hlen
    rw [hsz]
    clear hsz
    have HRi := hide (fun A c w5 => chas_c A c L.length i w5)
    have HRk := hide (fun A c w5 => chas_c A c L.length k w5)
    by_cases hi : 0 ≤ i ∧ i < (L.length : Int)
    · rw [decide_eq_true hi] at HRi
      by_cases hk : 0 ≤ k ∧ k < (L.length : Int)
      · rw [decide_eq_true hk] at HRk
        rw [if_pos ⟨hi, hk⟩]
        obtain ⟨i, rfl⟩ := Int.eq_ofNat_of_zero_le hi.1
        obtain ⟨k, rfl⟩ := Int.eq_ofNat_of_zero_le hk.1
        have hin : i < L.length := by omega
        have hkn : k < L.length := by omega
        have HM := hide (fun (A : Option Addr) (c : Nat) (w5 : World) (hr : Row w5 A (ints (natI (nearS L)))) => pcatches_c A c L C w5 hn1 h9s hok hr)
        have HTV := hide (fv_top hok hin hkn)
        have HIN := hide hin
        have HKN := hide hkn
        have hkey := keyP (h := i) (o := k) (by omega) (by omega)
        simp only [Int.toNat_natCast]
        clear hi hk hin hkn hok h9s
        go_enter Try.func6, Try.ntmps6
        go_wp2_with fail
        refine H.out.mono ?_
        rintro e w1 ⟨A1, c1, rfl, o1, b1⟩
        have R1 := hide (own_reads o1)
        clear o1
        go_wp2_with fail
        refine (HRi.out _ _ _).mono ?_
        rintro e w2 ⟨rfl, rfl⟩
        go_wp2_with fail
        refine (HRk.out _ _ _).mono ?_
        rintro e w3 ⟨rfl, rfl⟩
        go_wp2_with fail
        refine (HM.out _ _ _ R1.out).mono ?_
        rintro e w4 ⟨bm, nm, D, rfl, om, hv, b4⟩
        have b14 := below_then b1 b1.size b4
        obtain ⟨hhas, hat⟩ := hv.2 i k HIN.out HKN.out
        rw [HTV.out] at hhas hat
        by_cases hz : cAt C i k = 0
        · rw [if_pos hz] at hhas
          have HZ := hide hz
          clear hat hv hz
          go_wp2_with ((at_lookup; refine wpList_lookup_own_ok_int _ rfl _ _ 42 rfl 45 3 .i64 mlawP Try.underlying42 Try.underlying3 (mzeroP _) bm nm D rfl om _ _ rfl hkey ?_; intro c0 hc0 hwc0; rw [hhas]; clear hc0 hwc0))
          go_ret
          exact ⟨show Ending.returned (.int .i64 (-1)) = _ from ret_int (by rw [HZ.out]; rfl), b14⟩
        · rw [if_neg hz] at hhas hat
          obtain ⟨x, hx⟩ : ∃ x, cAt C i k = x + 1 := ⟨cAt C i k - 1, by omega⟩
          rw [hx] at hat hhas
          have HX := hide hx
          have hat' : D.atKey (klp i k) (.lit (.int .i64 0)) = .lit (.int .i64 (x : Int)) := hat
          clear hat hv hz hx
          go_wp2_with ((at_lookup; refine wpList_lookup_own_ok_int _ rfl _ _ 42 rfl 45 3 .i64 mlawP Try.underlying42 Try.underlying3 (mzeroP _) bm nm D rfl om _ _ rfl hkey ?_; intro c0 hc0 hwc0; rw [hhas]; rw [hat'] at hc0; injection hc0 with hc0; injection hc0 with _ hc0; subst hc0; clear hwc0))
          go_ret
          exact ⟨show Ending.returned (.int .i64 (x : Int)) = _ from ret_int (by rw [HX.out]; omega), b14⟩
      · rw [decide_eq_false hk] at HRk
        rw [if_neg (fun h => hk h.2)]
        clear hi hk
        go_enter Try.func6, Try.ntmps6
        go_wp2_with fail
        refine H.out.mono ?_
        rintro e w1 ⟨A1, c1, rfl, o1, b1⟩
        go_wp2_with fail
        refine (HRi.out _ _ _).mono ?_
        rintro e w2 ⟨rfl, rfl⟩
        go_wp2_with fail
        refine (HRk.out _ _ _).mono ?_
        rintro e w3 ⟨rfl, rfl⟩
        go_wp2_with fail
        go_ret
        exact ⟨rfl, b1⟩
    · rw [decide_eq_false hi] at HRi
      rw [if_neg (fun h => hi h.1)]
      clear hi
      go_enter Try.func6, Try.ntmps6
      go_wp2_with fail
      refine H.out.mono ?_
      rintro e w1 ⟨A1, c1, rfl, o1, b1⟩
      go_wp2_with fail
      refine (HRi.out _ _ _).mono ?_
      rintro e w2 ⟨rfl, rfl⟩
      go_wp2_with fail
      go_ret
      exact ⟨rfl, b1⟩
end Go.Proofs.Ytakphmcelhbaiac
