
/-
  Pegs: the model's classOf and ClassOf.
-/
import Derived.Test.YtgbbmnnpphkkbabPegA
import Derived.StillTailTactics
namespace Go.Proofs.Ytgbbmnnpphkkbab
open Go.RowKit
set_option linter.unusedVariables false

theorem own_lit3 (w : World) (base : Nat) (hb : base ≤ w.heap.size) (a b c : Int) : (w.alloc (.cells #[.int .i64 a, .int .i64 b, .int .i64 c] 3)).ownsRow base 3 1 (.slice (some ⟨w.heap.size, 0, none⟩) 3 3) 3 (ints [a, b, c]) :=
  ⟨by simp, .inr ⟨w.heap.size, 3, #[.int .i64 a, .int .i64 b, .int .i64 c], rfl, hb, heap_alloc_new w _, Nat.le_refl _, by simp [maxLen], rfl, by simp⟩⟩
theorem own_lit4 (w : World) (base : Nat) (hb : base ≤ w.heap.size) (a b c d : Int) : (w.alloc (.cells #[.int .i64 a, .int .i64 b, .int .i64 c, .int .i64 d] 3)).ownsRow base 3 1 (.slice (some ⟨w.heap.size, 0, none⟩) 4 4) 4 (ints [a, b, c, d]) :=
  ⟨by simp, .inr ⟨w.heap.size, 4, #[.int .i64 a, .int .i64 b, .int .i64 c, .int .i64 d], rfl, hb, heap_alloc_new w _, Nat.le_refl _, by simp [maxLen], rfl, by simp⟩⟩
def clsI (bc br s : Int) : List Int := if PegS bc br s then natI (clsL bc.toNat (bc.toNat * br.toNat) s.toNat) else []
end Go.Proofs.Ytgbbmnnpphkkbab
