/-
  The program's RunDesk answers for all lines as the reference model's does, and writes into no argument: the Go law FnExactRunDesk returns true for every input, and leaves what there was as it was; it holds with the tables of the library that the program reads laid as the program's own text lays them, and the card ties them to that text.
-/
import Derived.Test.YtmfdlijkpdgimaaGreatDoorRows
import Derived.Test.YtmfdlijkpdgimaaGreatDoorCards
import Derived.Test.YtmfdlijkpdgimaaGreatDoorTie
import Derived.Test.YtmfdlijkpdgimaaGreatDoorPDoorZ
import Derived.OpenVars
import Derived.WalkKit
import Derived.ProofKit
import Derived.OpenShut
import Derived.ShutString
import Derived.ChangeOld
import Derived.Below
import Derived.SliceStrings
import Derived.Test.YtmfdlijkpdgimaaGreatDoorExDesk
import Derived.Test.YtmfdlijkpdgimaaGreatDoorDeskJ
import Derived.Test.YtmfdlijkpdgimaaGreatDoorPDesk
namespace Go.Proofs.YtmfdlijkpdgimaaGreatDoor.fnExactRunDesk
open Go.ChangeShapes Go.WideShapes Go.ChangeAt Go.RowKit
open Go.ChangeMaps (open_string shut_string)
set_option linter.unusedVariables false

theorem own : ownKnob Tryz.prog.godebug = none := by kernel_rfl
theorem laidOut : laidOutB Tryz.prog = true := by kernel_rfl

theorem walk (a0 : Option Addr) (len0 cap0 : Nat) (lines : List ByteArray) (w : World) (hn : lines.length = len0) (hm : len0 ≤ maxLen) (hl : ∀ i, i < len0 → (lines[i]?.getD ⟨#[]⟩).size ≤ maxLen) (hr : Row w a0 (strsV lines)) (hT : TabZ w) :
    Calls Tryz.prog 4 #[.slice a0 len0 cap0] w fun e w' => e = .returned (.bool true) ∧ Below w.heap.size w w' :=
  exactRunDesk_w TabZ (fun _ _ h hb => h.below hb) deskD deskQ deskD_s deskD_c implRunDesk_c lines a0 len0 cap0 w hT hn hm hl hr

set_option maxRecDepth 100000 in
theorem lifted (os : Os) (started : os.Started) (H : Type) (enc : TypeId × Value → H) :
    ReturnsInHanded {} Tryz.checked os 4 .any (fun w args => (Rows.fnExactRunDeskSpec.pre enc Tryz.prog Tryz.f4 Rows.fnExactRunDeskRow.domain false w args ∧ laidMetH Tryz.prog laidL w) ∧ sizedMet enc Tryz.prog Tryz.f4 (OpenSpec.ofChange Rows.fnExactRunDeskSpec) false w args) (Rows.fnExactRunDeskSpec.post enc Tryz.prog Tryz.f4 false true false false) := by
  refine handed_of (C := Tryz.checked) (T := TabZ) (fun _ h hs => tab_of_laid h hs) own started (by kernel_rfl) Tryz.func4
    (ChangeSpec.witness_shaped (enc := enc) (C := Tryz.checked) (os := os) (X := fun w _ => laidMetH Tryz.prog laidL w) false (laidW os) #[.slice none 0 0] 8 (laidW_os os)
      (World.shaped_of_ZipB (by kernel_rfl) (by kernel_rfl)) (by kernel_rfl) (by kernel_rfl) (by kernel_rfl) (laid_met os _)) ?_
  intro W base args ds gs before hval0 hW hT
  have hval : ∀ (j : Nat) t v, Tryz.f4.params[j]? = some t → args[j]? = some v → Value.okWide Tryz.prog W .any base t v := hval0
  have hW' := hW
  obtain ⟨p, q, hA0, hV0, rfl, hfz, hnd⟩ := hW
  have hA : DataW.TrodAll enc Tryz.prog W 0 (fun _ => true) true Tryz.f4.params.toList args.toList ds p := hA0
  have hV : DataW.TrodVars enc Tryz.prog W (fun _ => true) ["loop.example/piecesonboards/impl.errWhat"] gs q := hV0
  obtain ⟨_, _, _, _, d1, _, rfl, _⟩ := trodVars_one hV
  rw [Tryz.params4] at hA hval
  obtain ⟨v0, vs0, d0, ds0, p0, q0, hargs, rfl, rfl, h0, r0⟩ := trodAll_cons hA
  obtain ⟨rfl, rfl, rfl⟩ := trodAll_nil r0
  obtain rfl : args = #[v0] := by cases args; simp_all
  obtain ⟨a0, len0, cap0, rfl⟩ := okWide_slice Tryz.underlying23 (hval 0 23 v0 rfl rfl)
  have k0 := h0
  have lt0 : ∀ x ∈ p0, x.block < W.heap.size := by obtain ⟨m, hm⟩ := k0; exact DataW.trod_lt m _ _ _ hm
  obtain ⟨lines, hn, hm, hl, hr⟩ : ∃ lines : List ByteArray, lines.length = len0 ∧ len0 ≤ maxLen ∧ (∀ i, i < len0 → (lines[i]?.getD ⟨#[]⟩).size ≤ maxLen) ∧ Row W a0 (strsV lines) := by
    obtain ⟨fuel, hf⟩ := h0
    rcases open_strings Tryz.underlying23 Tryz.underlying9 (by kernel_rfl) hf with ⟨hcs, _⟩ | ⟨x, l, c, ss, hcs, _, hl, hm, hz, _, hcell, hwz⟩
    · simp [Value.cells] at hcs
      obtain ⟨rfl, rfl, rfl⟩ := hcs
      exact ⟨[], rfl, Nat.zero_le _, fun i hi => absurd hi (by omega), Row.empty _ _⟩
    · simp [Value.cells] at hcs
      obtain ⟨rfl, rfl, rfl⟩ := hcs
      have hzl : len0 ≤ ss.length := by
        rw [hz]
        split <;> omega
      refine ⟨ss.take len0, by simp; omega, by omega, fun i hi => ?_, fun j hj => ⟨x, rfl, ?_⟩⟩
      · rw [List.getElem?_take_of_lt hi, List.getElem?_eq_getElem (by omega), Option.getD_some]
        exact hwz _ (List.getElem_mem _)
      · have hj' : j < len0 := by simp [strsV] at hj; omega
        rw [hcell j (by omega)]
        simp [strsV, List.getD, List.getElem?_eq_getElem (show j < ss.length by omega)]
  clear hA0 hV0 hval0
  refine (walk a0 len0 cap0 lines W hn hm hl hr hT).mono fun e W' ⟨he, bel⟩ => ?_
  subst he
  exact ⟨_, rfl, _, _, _, [], _, _, hW', trodAll_mk1 (shut_bool Tryz.underlying4 _), (trodAll_cons_mk (Below.trod laidOut (by kernel_rfl) (of_decide_eq_true (by kernel_rfl)) k0 bel lt0) trodAll_mk0), Below.trodVars laidOut bel (by kernel_rfl) hV, bel.frame _, fun h => by cases h⟩

theorem over : Rows.fnExactRunDeskRow.holds Tryz.pinned (OpenSpec.ofChange Rows.fnExactRunDeskSpec) :=
  OpenClaim.holds_of_wide 4 Tryz.f4 rfl rfl rfl rfl rfl rfl rfl ⟨rfl, rfl, rfl, rfl, rfl⟩ rfl rfl rfl rfl rfl (by kernel_rfl) Tryz.func4 (by kernel_rfl)
    (of_decide_eq_true (by kernel_rfl)) (by unfold Func.isWrapper; first | (rw [if_pos (by decide +kernel)]; kernel_rfl) | (rw [if_neg (by decide +kernel)]; exact ⟨rfl, rfl⟩))
    (fun os started H enc _ => lifted os started H enc)

/-- THE TIED CARD: the row, and its listed variables tied to the program's text. -/
theorem proved : Rows.FnExactRunDeskCardSaid :=
  Claim7.holds_tied_plain_at .later [] [.data, .data, .data, .data, .handle, .sentinel, .sentinel, .sentinel, .pinned] true (true, "237de915d112245434f4d317820c49320aa0694b75da4ba8961d3dff555e59d2") true
    over (fun _ h => by cases h) (by kernel_rfl) (fun _ h => by cases h) fnExactRunDesk_row_tie rfl ⟨rfl, rfl⟩ (by kernel_rfl) rfl
    (fun f fn hf hfn => by
      obtain rfl : f = 4 := Option.some.inj ((show Tryz.prog.funcNamed "loop.example/piecesonboards/laws.FnExactRunDesk" = some 4 by kernel_rfl).symm.trans hf) |>.symm
      obtain rfl : fn = Tryz.f4 := (Option.some.inj (Tryz.func4.symm.trans hfn)).symm
      exact ⟨by kernel_rfl, fun j t ht => by
        rw [Tryz.params4] at ht
        have hm : t ∈ [23] := by have := Array.mem_of_getElem? ht; simp at this ⊢; omega
        have hall : ([23].all fun u => !Tryz.prog.wantsStandIn u) = true := by kernel_rfl
        exact (show Tryz.prog.wantsStandIn t = false by simpa using List.all_eq_true.1 hall t hm)⟩)
    (by kernel_rfl)
end Go.Proofs.YtmfdlijkpdgimaaGreatDoor.fnExactRunDesk
