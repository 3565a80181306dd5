
/-
  Walks by chance, purely: that a piece comes everywhere and has a move, as the program tells it: one part, and some moves.
-/
import Derived.Test.YtoapmmmmdfmaeacWalkB
import Derived.Test.YtoapmmmmdfmaeacPartM
import Derived.Test.YtoapmmmmdfmaeacPureM
namespace Go.Proofs.Ytoapmmmmdfmaeac
open Go.RowKit
set_option linter.unusedVariables false

def partL (bc br : Nat) (p : List (Int × Int) × Bool) : List (List Int) := (List.range (bc * br)).map (movesT (tabP bc br p.2 p.1) (bc * br))
def chanceF (bc br : Nat) (p : List (Int × Int) × Bool) : Bool :=
  let M := partL bc br p
  let S := setsP bc br p.2 p.1
  let T := sumC bc br p.2 p.1 (bc * br)
  ((((partsI (fun n => M[n]?.getD []) (bc * br) (bc * br)).2 == 1) && decide (0 < T)) == (hitOf S).isSome) && (T == (degTo S S.length : Int)) && decide (degTo S S.length ≤ 81)
theorem chance_F : ∀ a : Fin 5, ∀ b : Fin 5, (a.val + 1) * (b.val + 1) ≤ 9 → kinds6.all (chanceF (a.val + 1) (b.val + 1)) = true := by decide +kernel
/-- What the program asks of a board. -/
structure ChanceIs (bc br : Int) (ss : List (Int × Int)) (far : Bool) (L : List Nat) : Prop where
  sum : sumP bc br far ss (bc * br).toNat = (degTo L L.length : Int)
  small : degTo L L.length ≤ 81
  both : (decide (((partsI (fun n => movesP bc br far ss (n : Int)) (bc * br).toNat (bc * br).toNat).2 : Int) = 1) && decide (0 < sumP bc br far ss (bc * br).toNat)) = (hitOf L).isSome
theorem chance_is {bc br : Int} {s : List UInt8} {ss : List (Int × Int)} {far : Bool} {L : List Nat} {a b n : Nat} (hS : Small bc br) (hk : kindL s = some (ss, far)) (hW : WalkOf bc br ss far L a b n) : ChanceIs bc br ss far L := by
  have hL := hW.is
  have hsz := hW.size
  have hea := hW.eqc
  have heb := hW.eqr
  obtain ⟨h1, h2, h3, h4, h9⟩ := hS
  have hT : ∀ c, c < n → movesP bc br far ss (c : Int) = movesT (tabP bc br far ss) n c := fun c hc => moves_T h1 h2 h3 h4 far ss hsz c hc
  have hz := hW.sz
  clear hW
  subst hea heb hz
  have h9' : a * b ≤ 9 := by rw [hsz] at h9; omega
  have h := List.all_eq_true.1 (chance_F ⟨a - 1, by omega⟩ ⟨b - 1, by omega⟩ (by
    show (a - 1 + 1) * (b - 1 + 1) ≤ 9
    rw [show a - 1 + 1 = a by omega, show b - 1 + 1 = b by omega]; exact h9')) (ss, far) (kind_six6 hk)
  simp only [show a - 1 + 1 = a by omega, show b - 1 + 1 = b by omega] at h
  unfold chanceF at h
  simp only [Bool.and_eq_true, decide_eq_true_eq, beq_iff_eq] at h
  rw [← hL] at h
  obtain ⟨⟨q1, q2⟩, q3⟩ := h
  have hN : ((a : Int) * (b : Int)).toNat = a * b := by rw [hsz]; rfl
  refine ⟨by rw [hN, sumP_eq]; exact q2, q3, ?_⟩
  rw [hN, sumP_eq, ← q1, partsI_congr (a * b) (a * b) (M' := fun n => (partL a b (ss, far))[n]?.getD []) (fun k hk => by
    rw [hT k hk]
    simp [partL, hk])]
  congr 1
  rw [Bool.eq_iff_iff, decide_eq_true_eq, beq_iff_eq]
  omega
end Go.Proofs.Ytoapmmmmdfmaeac
