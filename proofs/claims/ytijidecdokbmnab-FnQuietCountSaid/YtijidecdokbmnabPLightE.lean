
/-
  The program's lights: QuietCount.
-/
import Derived.Test.YtijidecdokbmnabPLightC
import Derived.Test.YtijidecdokbmnabPLightD
import Derived.Test.YtijidecdokbmnabLightE
import Derived.Lib.MinMax
namespace Go.Proofs.Ytijidecdokbmnab
open Go.RowKit
set_option linter.unusedVariables false

theorem dat_leads {w h : Nat} (hw : 1 ≤ w ∧ w ≤ 5) (hh : 1 ≤ h ∧ h ≤ 5) (h12 : w * h ≤ 12) (W : World) :
    Calls Try.prog 18 #[boardV (w : Int) (h : Int)] W (Leads (datL w h).leads (datL w h).quiet W) := by
  have := leadRows_c w h W hw hh h12
  rw [(dat_is hw hh h12).lit, (dat_is hw hh h12).leads] at this
  exact this
theorem own_head {w : World} {base e size n : Nat} {A : Option Addr} {c : Nat} {cs : List Value} (h : w.ownsRow base e size (.slice A n c) n cs) : n ≠ 0 → ∃ g, A = some ⟨g, 0, none⟩ := fun h0 => by
  obtain ⟨g', c', e', _⟩ := own_addr h (by omega)
  injection e' with e1 e2 e3
  exact ⟨g', e1⟩

set_option maxHeartbeats 2000000 in
set_option maxRecDepth 100000 in
theorem implQuietCount_c (bc br : Int) (W : World) : Calls Try.prog 8 #[.int .i64 bc, .int .i64 br] W (Plain (.int .i64 (quietV bc br)) W) := by
  have HLB := hide (litBoard_c bc br none 0 [] W (Row.empty _ _) (by simp))
  rcases HLB.out with ⟨w, h, rfl, rfl, hw, hh, h12, hS, hC⟩ | ⟨hN, hC⟩
  · rw [quietV_nat hw hh h12]
    have HC := hide hC
    have hD := dat_is hw hh h12
    have HP := hide (fun w5 => dat_leads hw hh h12 w5)
    have hq := hD.three
    have es := shl64 (datL w h).quiet.length (by omega)
    clear HLB hS hC hh hw hD
    generalize (datL w h).leads = M at *
    generalize (datL w h).quiet = Q at *
    have q64 : (Q.length : Int) < 64 := by omega
    go_enter Try.func8, Try.ntmps8
    go_wp2_with fail
    refine HC.out.mono ?_
    rintro e w1 ⟨rfl, hb1⟩
    clear HC
    go_wp2_with fail
    refine (HP.out _).mono ?_
    rintro e w2 ⟨v1, v2, rfl, o1, o2, b2⟩
    have hb2 := below_then (hb1.alloc hb1.size (.cells #[.int .i64 (w : Int), .int .i64 (h : Int)] 37)) (hb1.alloc hb1.size (.cells #[.int .i64 (w : Int), .int .i64 (h : Int)] 37)).size b2
    obtain ⟨A1, c1, rfl, _⟩ := own_row o1
    obtain ⟨A2, c2, rfl, _⟩ := own_row o2
    clear o1 o2 b2 hb1
    go_wp2_with fail
    go_ret
    exact ⟨rfl, hb2⟩
  · have hv : quietV bc br = -1 := by
      unfold quietV
      refine if_neg fun h' => ?_
      rcases hN with hN | hN
      · exact hN fun i hi => absurd hi (by simp)
      · exact hN h'
    rw [hv]
    have HC := hide hC
    clear HLB hN hC hv
    go_enter Try.func8, Try.ntmps8
    go_wp2_with fail
    refine HC.out.mono ?_
    rintro e w1 ⟨rfl, hb1⟩
    go_wp2_with fail
    go_ret
    exact ⟨rfl, hb1.alloc hb1.size _⟩

end Go.Proofs.Ytijidecdokbmnab
