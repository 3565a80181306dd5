
/-
  The program's lights: QuietCount.
-/
import Derived.Test.YtijidecdokbmnacPLightC
import Derived.Test.YtijidecdokbmnacPLightD
import Derived.Test.YtijidecdokbmnacLightE
import Derived.Lib.MinMax
namespace Go.Proofs.Ytijidecdokbmnac
open Go.RowKit
set_option linter.unusedVariables false

theorem dat_leads {w h : Nat} (hw : 1 ≤ w ∧ w ≤ 5) (hh : 1 ≤ h ∧ h ≤ 5) (h12 : w * h ≤ 12) (W : World) :
    Calls Try.prog 18 #[boardV (w : Int) (h : Int)] W (Leads (datL w h).leads (datL w h).quiet W) := by
  have := leadRows_c w h W hw hh h12
  rw [(dat_is hw hh h12).lit, (dat_is hw hh h12).leads] at this
  exact this
theorem own_head {w : World} {base e size n : Nat} {A : Option Addr} {c : Nat} {cs : List Value} (h : w.ownsRow base e size (.slice A n c) n cs) : n ≠ 0 → ∃ g, A = some ⟨g, 0, none⟩ := fun h0 => by
  obtain ⟨g', c', e', _⟩ := own_addr h (by omega)
  injection e' with e1 e2 e3
  exact ⟨g', e1⟩

end Go.Proofs.Ytijidecdokbmnac
