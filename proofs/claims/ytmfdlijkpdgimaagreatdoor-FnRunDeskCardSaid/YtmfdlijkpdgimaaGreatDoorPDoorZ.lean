
/-
  From a row's listed variables to what the desk's calls lean on; the start in which they lie.
-/
import Derived.Test.YtmfdlijkpdgimaaGreatDoorRows
import Derived.Test.YtmfdlijkpdgimaaGreatDoorPDeskN
import Derived.ProofKit
import Derived.OpenShut
import Derived.OpenVars
import Derived.LaidMore
import Derived.LaidHandle
import Derived.LaidSub
import Derived.Lay
import Derived.Lib.LaidTab
import Derived.Stop.LaidErr
import Derived.SevenTiedAt
import Derived.Stop.Joined
import Derived.Handed
import Derived.ChangeVars
namespace Go.Proofs.YtmfdlijkpdgimaaGreatDoor
open Go.ChangeShapes Go.WideShapes Go.ChangeAt Go.RowKit

def laidN : List (String × DataW Unit) := [("math/bits.deBruijn32tab", Rows.laid_math_bits_deBruijn32tab), ("math/bits.deBruijn64tab", Rows.laid_math_bits_deBruijn64tab), ("internal/strconv.uint64pow10", Rows.laid_internal_strconv_uint64pow10), ("unicode/utf8.acceptRanges", Rows.laid_unicode_utf8_acceptRanges), ("strconv.ErrRange", Rows.laid_strconv_ErrRange), ("strconv.ErrSyntax", Rows.laid_strconv_ErrSyntax), ("loop.example/piecesonboards/impl.errWhat", Rows.laid_loop_example_piecesonboards_impl_errWhat), ("unicode/utf8.first", Rows.laid_unicode_utf8_first)]
def laidL : List (String × DataW Unit) := [("math/bits.deBruijn32tab", Rows.laid_math_bits_deBruijn32tab), ("math/bits.deBruijn64tab", Rows.laid_math_bits_deBruijn64tab), ("internal/strconv.uint64pow10", Rows.laid_internal_strconv_uint64pow10), ("unicode/utf8.acceptRanges", Rows.laid_unicode_utf8_acceptRanges), ("errors.errorType", Rows.laid_errors_errorType), ("strconv.ErrRange", Rows.laid_strconv_ErrRange), ("strconv.ErrSyntax", Rows.laid_strconv_ErrSyntax), ("loop.example/piecesonboards/impl.errWhat", Rows.laid_loop_example_piecesonboards_impl_errWhat), ("unicode/utf8.first", Rows.laid_unicode_utf8_first)]
theorem laid_data : (laidL.filter fun x => x.2.handleName?.isNone) = laidN := by kernel_rfl
theorem laid_hand : (laidL.filter fun x => x.2.handleName?.isSome) = [("errors.errorType", Rows.laid_errors_errorType)] := by kernel_rfl

/-! ### The start -/
noncomputable def startW (os : Os) : World :=
  { World.holding Tryz.prog os ⟨#[], #[], []⟩ with heap := (World.holding Tryz.prog os ⟨#[], #[], []⟩).heap.modify 0 fun
      | .cells _ t frozen => .cells #[.iface 108 (.agg #[.pointer (some ⟨10, 45, none⟩)])] t frozen
      | o => o }
noncomputable def laidW (os : Os) : World := (startW os).layVars Tryz.prog laidN
theorem laidW_os (os : Os) : (laidW os).os = os := World.layVars_os _ _ _
theorem laid_met (os : Os) (args : Array Value) : laidMetH Tryz.prog laidL ((laidW os).forCall (fun _ _ => 0) ⟨#[], args, []⟩).memory := by
  refine laidMetH_of_parts ?_ (by rw [laid_hand]; kernel_rfl)
  rw [laid_data]
  have e1 : (laidN.filter fun x => (laidN.map (·.1)).contains x.1) = laidN := List.filter_eq_self.2 fun x hx => List.contains_iff_mem.2 (List.mem_map.2 ⟨x, hx, rfl⟩)
  have e2 : (laidN.filter fun x => !(laidN.map (·.1)).contains x.1) = [] := List.filter_eq_nil_iff.2 fun x hx => by rw [List.contains_iff_mem.2 (List.mem_map.2 ⟨x, hx, rfl⟩)]; simp
  have h : laidMet Tryz.prog laidN (laidW os) := laidMet_layVars (w0 := startW os) (laidN.map (·.1)) [] (by rw [e1]; rfl) (by rw [e1]; kernel_rfl) (by rw [e1]; kernel_rfl) (by rw [e2]; exact LaidIn.none)
  exact h.of_heap (by simp [World.memory, World.forCall, Input.heap])

/-! ### What the condition gives -/
theorem laid_of {W : World} (h : laidMetH Tryz.prog laidL W) : laidMet Tryz.prog laidN W := by
  have := (laidMetH_iff.1 h).1
  rwa [laid_data] at this
theorem handle_of {W : World} (h : laidMetH Tryz.prog laidL W) : W.cell? ⟨0, 0, none⟩ = some (.iface 108 (.agg #[.pointer (some ⟨10, 45, none⟩)])) := by
  have hh := (laidMetH_iff.1 h).2
  rw [laid_hand] at hh
  obtain ⟨name, u, ty, e1, e2, e3, e4, e5⟩ := hh _ (List.mem_singleton.2 rfl)
  have en : name = [101, 114, 114, 111, 114] := (Option.some.inj e1).symm
  subst en
  obtain rfl := Option.some.inj ((show (Tryz.prog.cutTypes.find? (·.1 == "internal/reflectlite.rtype")).map (·.2) = some 108 by kernel_rfl).symm.trans e2)
  have hsz : Tryz.prog.types.size = 274 := by kernel_rfl
  have hone : ((List.range 274).filter fun t => Tryz.prog.rowNamed t [101, 114, 114, 111, 114]) = [45] := by kernel_rfl
  have hm : ty ∈ (List.range 274).filter fun t => Tryz.prog.rowNamed t [101, 114, 114, 111, 114] := List.mem_filter.2 ⟨List.mem_range.2 (by rw [← hsz]; exact e3), e4⟩
  rw [hone] at hm
  obtain rfl := List.mem_singleton.1 hm
  have hh : typeHandle Tryz.prog 45 = .pointer (some ⟨10, 45, none⟩) := by kernel_rfl
  rw [hh] at e5
  simpa using World.var?_cell (show Tryz.prog.globalNamed "errors.errorType" = some 0 by kernel_rfl) e5 0
def tabZ : List Int := Lib.deBruijn64tab.map fun (x : Nat) => (x : Int)
theorem one_of {W : World} {n : String} {d : DataW Unit} (h : laidMet Tryz.prog laidN W) (e : (laidN.filter fun x => x.1 == n) = [(n, d)]) : laidMet Tryz.prog [(n, d)] W := by
  have := h.filter (fun x => x.1 == n)
  rwa [e] at this
theorem bits_of {W : World} (h : laidMet Tryz.prog laidN W) : Tab W := fun r hr => by
  have h1 : laidMet Tryz.prog [("math/bits.deBruijn64tab", Lib.tabData .u8 tabZ)] W := one_of h (by kernel_rfl)
  have hlen : tabZ.length = 64 := by kernel_rfl
  have ht := Lib.tabIs_of_head (show Tryz.prog.globalNamed "math/bits.deBruijn64tab" = some 9 by kernel_rfl) (show (Tryz.prog.globals[9]?).map (·.type) = some 244 by kernel_rfl) Tryz.underlying244 Tryz.underlying5 (by kernel_rfl) (by kernel_rfl) h1
  have hc := ht.cell (show Tryz.prog.globalNamed "math/bits.deBruijn64tab" = some 9 by kernel_rfl) r (by omega)
  rw [hc]
  have hl2 : Lib.deBruijn64tab.length = 64 := by kernel_rfl
  simp [tabZ, List.getD, List.getElem?_eq_getElem (show r < Lib.deBruijn64tab.length by omega)]
theorem pows_of {W : World} (h : laidMet Tryz.prog laidN W) : Lib.TabIs Tryz.prog W "internal/strconv.uint64pow10" .u64 Lib.pow10Tab := by
  have h1 : laidMet Tryz.prog [("internal/strconv.uint64pow10", Lib.tabData .u64 Lib.pow10Tab)] W := one_of h (by kernel_rfl)
  exact Lib.tabIs_of_head (show Tryz.prog.globalNamed "internal/strconv.uint64pow10" = some 7 by kernel_rfl) (show (Tryz.prog.globals[7]?).map (·.type) = some 234 by kernel_rfl) Tryz.underlying234 Tryz.underlying201 (by kernel_rfl) (by kernel_rfl) h1
theorem star_es : "*" ++ "errors.errorString" = "*errors.errorString" := by decide
theorem row_es (u : TypeId) (h : Tryz.prog.typeName? 3 u = some "*errors.errorString") : u = 230 :=
  typeName_ptr_named (nm := "errors.errorString") (by rw [star_es]; kernel_rfl) (by kernel_rfl) (by decide) u (by rw [star_es]; exact h)
theorem sent_of {W : World} {n : String} {g : Nat} {text : List UInt8} (h : laidMet Tryz.prog [(n, .iface "*errors.errorString" (.ptr (.agg [.lit (.string text)])))] W) (hg : Tryz.prog.globalNamed n = some g) (ht : (Tryz.prog.globals[g]?).map (·.type) = some 45) : ∃ v, W.cell? ⟨g, 0, none⟩ = some (.iface 230 v) := by
  obtain ⟨a, s, hv, _⟩ := laid_sentinel h hg ht Tryz.underlying45 row_es Tryz.underlying230 Tryz.underlying232 rfl rfl Tryz.underlying9 (by kernel_rfl) (by kernel_rfl)
  exact ⟨_, by simpa using World.var?_cell hg hv 0⟩
theorem tab_of_laid {W : World} (h : laidMetH Tryz.prog laidL W) (hsh : W.ShapedOpen Tryz.prog) : TabZ W where
  bits := bits_of (laid_of h)
  pows := pows_of (laid_of h)
  syn := let ⟨v, hv⟩ := sent_of (one_of (laid_of h) (show (laidN.filter fun x => x.1 == "strconv.ErrSyntax") = [("strconv.ErrSyntax", Rows.laid_strconv_ErrSyntax)] by kernel_rfl)) (show Tryz.prog.globalNamed "strconv.ErrSyntax" = some 3 by kernel_rfl) (by kernel_rfl); ⟨_, v, hv⟩
  rng := let ⟨v, hv⟩ := sent_of (one_of (laid_of h) (show (laidN.filter fun x => x.1 == "strconv.ErrRange") = [("strconv.ErrRange", Rows.laid_strconv_ErrRange)] by kernel_rfl)) (show Tryz.prog.globalNamed "strconv.ErrRange" = some 4 by kernel_rfl) (by kernel_rfl); ⟨_, v, hv⟩
  what := sent_of (one_of (laid_of h) (show (laidN.filter fun x => x.1 == "loop.example/piecesonboards/impl.errWhat") = [("loop.example/piecesonboards/impl.errWhat", Rows.laid_loop_example_piecesonboards_impl_errWhat)] by kernel_rfl)) (show Tryz.prog.globalNamed "loop.example/piecesonboards/impl.errWhat" = some 1 by kernel_rfl) (by kernel_rfl)
  et := handle_of h
  ml := Tryz.laysM146.s1_3 W hsh
/-- The wrap of a law that lists variables, the world's shape handed on. -/
theorem handed_of {H : Type} {enc : TypeId × Value → H} {C : Checked} {laid : List (String × DataW Unit)} {T : World → Prop} (hT : ∀ W, laidMetH C.prog laid W → W.ShapedOpen C.prog → T W) {os : Os} {f : FuncId} {fn : Func} {s : ChangeSpec} {conds : List PathCond} {apart fresh handsOn again : Bool}
    (own : ownKnob C.prog.godebug = none) (started : os.Started) (noInit : C.prog.inits.idxOf? f = none) (hfn : C.prog.funcs[f]? = some fn)
    (witness : ∃ (w : World) (tape : Tape) (i : Input), w.os = os ∧ (w.forCall tape i).Shaped C.prog ∧ i.vars = [] ∧ Input.okWide C.prog (w.forCall tape i) .any w.heap.size f i ∧
      ((s.pre enc C.prog fn conds apart (w.forCall tape i).memory i.args ∧ laidMetH C.prog laid (w.forCall tape i).memory) ∧ sizedMet enc C.prog fn (OpenSpec.ofChange s) apart (w.forCall tape i).memory i.args) ∧ ({} : Assume).holds C.prog (lone (Frame.enter C.prog f i.args .normal) [] (w.forCall tape i)))
    (contract : ∀ (W : World) (base : Nat) (args : Array Value) (ds gs : List (DataW H)) (before : List MemPlace),
      (∀ (j : Nat) t v, fn.params[j]? = some t → args[j]? = some v → Value.okWide C.prog W .any base t v) →
      DataW.Whole enc C.prog fn.params.toList s.vars apart W args.toList ds gs before → T W →
      Calls C.prog f args W fun e W' => ∃ v, e = .returned v ∧ s.post enc C.prog fn apart fresh handsOn again W args v W') :
    ReturnsInHanded {} C os f .any (fun w args => (s.pre enc C.prog fn conds apart w args ∧ laidMetH C.prog laid w) ∧ sizedMet enc C.prog fn (OpenSpec.ofChange s) apart w args) (s.post enc C.prog fn apart fresh handsOn again) := by
  refine returnsInHanded_of_calls own started noInit witness ?_
  intro w tape i _ hsh _ hok hpre _
  obtain ⟨_, _, _, fn', hfn', _, _, _, _, hval⟩ := hok
  obtain rfl : fn' = fn := Option.some.inj (hfn'.symm.trans hfn)
  obtain ⟨⟨⟨ds, gs, before, hw, _⟩, hx⟩, _⟩ := hpre
  refine (contract (w.forCall tape i) w.heap.size i.args ds gs before hval (DataW.Whole.of_heap (w' := w.forCall tape i) (by rfl) hw) (hT _ (hx.of_heap (by rfl)) hsh)).mono fun e W' ⟨v, he, hp⟩ => ?_
  subst he
  exact ChangeSpec.post_blind hp
end Go.Proofs.YtmfdlijkpdgimaaGreatDoor
