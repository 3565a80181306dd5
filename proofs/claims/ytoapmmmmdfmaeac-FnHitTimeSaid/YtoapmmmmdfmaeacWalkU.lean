
/-
  Walks by chance, purely: shares, times back, and what the laws say of them, by the kernel.
-/
import Derived.Test.YtoapmmmmdfmaeacWalkQ
import Derived.Test.YtoapmmmmdfmaeacWalkR
import Derived.Test.YtoapmmmmdfmaeacWalkS
import Derived.Test.YtoapmmmmdfmaeacWalkT
namespace Go.Proofs.Ytoapmmmmdfmaeac
open Go.RowKit
set_option linter.unusedVariables false
set_option maxRecDepth 100000

theorem hit_all {e : List Nat × List (List (Nat × Nat))} (he : e ∈ hitTab) : hitOk e = true := by
  obtain ⟨j, hj, rfl⟩ := List.getElem_of_mem he
  have hl : hitTab.length = 28 := by decide +kernel
  by_cases h : j < 16
  · exact List.all_eq_true.1 hit_a _ (by
      have : hitTab[j] = (hitTab.take 16)[j]'(by rw [List.length_take]; omega) := (List.getElem_take ..).symm
      rw [this]
      exact List.getElem_mem _)
  · have key : ∀ i (hi : i < hitTab.length), hitOk (hitTab[i]?.getD ([], [])) = true → hitOk hitTab[i] = true := fun i hi h => by
      rwa [List.getElem?_eq_getElem hi] at h
    have hc : j = 16 ∨ j = 17 ∨ j = 18 ∨ j = 19 ∨ j = 20 ∨ j = 21 ∨ j = 22 ∨ j = 23 ∨ j = 24 ∨ j = 25 ∨ j = 26 ∨ j = 27 := by omega
    rcases hc with rfl | rfl | rfl | rfl | rfl | rfl | rfl | rfl | rfl | rfl | rfl | rfl
    · exact key _ hj hit_16
    · exact key _ hj hit_17
    · exact key _ hj hit_18
    · exact key _ hj hit_19
    · exact key _ hj hit_20
    · exact key _ hj hit_21
    · exact key _ hj hit_22
    · exact key _ hj hit_23
    · exact key _ hj hit_24
    · exact key _ hj hit_25
    · exact key _ hj hit_26
    · exact key _ hj hit_27
theorem hitOf_mem {L : List Nat} {M : List (List (Nat × Nat))} (h : hitOf L = some M) : (L, M) ∈ hitTab := by
  unfold hitOf at h
  rw [Option.map_eq_some_iff] at h
  obtain ⟨e, he, rfl⟩ := h
  have h1 := List.mem_of_find?_eq_some he
  have h2 := beq_iff_eq.1 (List.find?_some (p := fun (e : List Nat × List (List (Nat × Nat))) => e.1 == L) he)
  obtain ⟨a, b⟩ := e
  simp only at h2
  subst h2
  exact h1
/-- What the table says of a board. -/
structure HitIs (L : List Nat) (M : List (List (Nat × Nat))) : Prop where
  two : 2 ≤ L.length
  nine : L.length ≤ 9
  diag : ∀ i, i < L.length → hAt M i i = (0, 1)
  col : ∀ k, k < L.length → ∃ d, detP (L.length - 1) (hitM L k) 1 1 = some d ∧ ∀ i, i < L.length → i ≠ k → ∃ u, detP (L.length - 1) (hitO L i k) 1 1 = some u ∧ numOk u d (hAt M i k) = true
theorem hit_is {L : List Nat} {M : List (List (Nat × Nat))} (h : hitOf L = some M) : HitIs L M := by
  have h := hit_all (hitOf_mem h)
  unfold hitOk at h
  simp only [Bool.and_eq_true, decide_eq_true_eq] at h
  obtain ⟨⟨h1, h2⟩, h3⟩ := h
  have hcol : ∀ k, k < L.length → colOk L M k = true := fun k hk => List.all_eq_true.1 h3 k (List.mem_range.2 hk)
  refine ⟨h1, h2, fun i hi => ?_, fun k hk => ?_⟩
  · have := hcol i hi
    unfold colOk at this
    split at this
    · have := List.all_eq_true.1 this i (List.mem_range.2 hi)
      rw [if_pos (by simp)] at this
      exact beq_iff_eq.1 this
    · cases this
  · have := hcol k hk
    unfold colOk at this
    split at this
    · rename_i d hd
      refine ⟨d, hd, fun i hi hne => ?_⟩
      have := List.all_eq_true.1 this i (List.mem_range.2 hi)
      rw [if_neg (by simpa using hne)] at this
      split at this
      · rename_i u hu
        exact ⟨u, hu, this⟩
      · cases this
    · cases this
/-! ### Shares, times back, and one move and the rest -/
def degTo (L : List Nat) : Nat → Nat
  | 0 => 0
  | k + 1 => degTo L k + pcN 9 (L[k]?.getD 0)
def shareP (L : List Nat) (c : Nat) : Nat × Nat := fracP (pcN 9 (L[c]?.getD 0)) (degTo L L.length)
/-- One part of a mean: a time from the cell b, of m moves. -/
def partP (x : Nat × Nat) (m : Nat) : Nat × Nat := fracP x.1 (x.2 * m)
def backTo (L : List Nat) (M : List (List (Nat × Nat))) (c : Nat) : Nat → Nat × Nat
  | 0 => (0, 1)
  | b + 1 => if bitN (L[c]?.getD 0) b = 1 then plusP (backTo L M c b) (partP (hAt M b c) (pcN 9 (L[c]?.getD 0))) else backTo L M c b
def backP (L : List Nat) (M : List (List (Nat × Nat))) (c : Nat) : Nat × Nat := plusP (backTo L M c L.length) (1, 1)
def shareTo (L : List Nat) : Nat → Nat × Nat
  | 0 => (0, 1)
  | i + 1 => plusP (shareTo L i) (shareP L i)
def reachU (L : List Nat) (i : Nat) : List Nat := (List.range L.length).filter fun x => bitN (L[i]?.getD 0) x == 1
def lawTo (L : List Nat) (M : List (List (Nat × Nat))) (i k : Nat) : Nat → Nat × Nat
  | 0 => (1, 1)
  | j + 1 => plusP (lawTo L M i k j) (partP (hAt M ((reachU L i)[j]?.getD 0) k) (reachU L i).length)
def backOk (L : List Nat) (M : List (List (Nat × Nat))) (c : Nat) : Bool :=
  let m := pcN 9 (L[c]?.getD 0)
  decide (1 ≤ m) && decide (m ≤ 9) && ((List.range (L.length + 1)).all fun b => okF (backTo L M c b)) && ((List.range L.length).all fun b => bitN (L[c]?.getD 0) b == 0 || okF (partP (hAt M b c) m)) && okF (backP L M c)
    && okF (shareP L c) && (backP L M c).1 * (shareP L c).1 == (backP L M c).2 * (shareP L c).2
def lawOk (L : List Nat) (M : List (List (Nat × Nat))) (i k : Nat) : Bool :=
  let R := reachU L i
  decide (1 ≤ R.length) && ((List.range (R.length + 1)).all fun j => okF (lawTo L M i k j)) && ((List.range R.length).all fun j => okF (partP (hAt M (R[j]?.getD 0) k) R.length)) && (lawTo L M i k R.length == hAt M i k)
def chanceOk (e : List Nat × List (List (Nat × Nat))) : Bool :=
  decide (1 ≤ degTo e.1 e.1.length) && decide (degTo e.1 e.1.length ≤ 81) && ((List.range e.1.length).all fun c => backOk e.1 e.2 c) && ((List.range (e.1.length + 1)).all fun i => okF (shareTo e.1 i)) && (shareTo e.1 e.1.length == (1, 1))
    && ((List.range e.1.length).all fun i => (List.range e.1.length).all fun k => okF (hAt e.2 i k) && (i == k || lawOk e.1 e.2 i k))
theorem chance_all : hitTab.all chanceOk = true := by decide +kernel
/-! ### Boards -/
def boardOk (bc br : Nat) (p : List (Int × Int) × Bool) : Bool :=
  let L := setsP bc br p.2 p.1
  let T := setsP br bc p.2 p.1
  let w := !((movesT (tabP bc br p.2 p.1) (bc * br) 0).contains (-1))
  match hitOf L with
  | none => bc * br == 1 || !w
  | some M => w && decide (2 ≤ bc * br) && (match hitOf T with
    | none => false
    | some M2 => (List.range (bc * br)).all fun i => (List.range (bc * br)).all fun k => hAt M2 (i % bc * br + i / bc) (k % bc * br + k / bc) == hAt M i k)
theorem board_all : ∀ a : Fin 5, ∀ b : Fin 5, (a.val + 1) * (b.val + 1) ≤ 9 → kinds6.all (boardOk (a.val + 1) (b.val + 1)) = true := by decide +kernel
def rowHit (w : Nat) : Bool := match hitOf (setsP w 1 false straight) with
  | none => false
  | some M => hAt M 0 (w - 1) == ((w - 1) * (w - 1), 1)
theorem row_hit : ∀ w : Fin 4, rowHit (w.val + 2) = true := by decide +kernel
def rookOk (bc br : Nat) : Bool := (List.range (bc * br)).all fun c => (hitOf (setsP bc br true straight)).isNone || shareP (setsP bc br true straight) c == fracP 1 (bc * br)
theorem rook_all : ∀ a : Fin 5, ∀ b : Fin 5, (a.val + 1) * (b.val + 1) ≤ 9 → rookOk (a.val + 1) (b.val + 1) = true := by decide +kernel
end Go.Proofs.Ytoapmmmmdfmaeac
