
/-
  Chases: the model's FoldOrder.
-/
import Derived.Test.YtakphmcelhbaiabChaseF
namespace Go.Proofs.Ytakphmcelhbaiab
open Go.RowKit
set_option linter.unusedVariables false

theorem fold_from {L : List Nat} {n : Nat} (hn : L.length = n) (h : (chTab.any fun e => e.1 == L) = true) : foldFrom L (n + 1) (2 ^ n - 1) = some (foldN L) := by
  obtain ⟨e, he, h1, h2⟩ := chOf_mem h
  have := beq_iff_eq.1 (List.all_eq_true.1 fold_ok e he)
  unfold foldN
  rw [h2]
  rw [h1, hn] at this
  exact this
def foldV (bc br : Int) (s : List UInt8) : List Nat := match smallK bc br s with
  | some (ss, far) => foldN (setsP bc br far ss)
  | none => []
set_option maxHeartbeats 1000000 in
theorem specFoldOrder_c (bc br : Int) (s : ByteArray) (W : World) : Calls Try.prog 7 #[.int .i64 bc, .int .i64 br, .string s] W (Owns 3 1 (foldV bc br s.toList).length (ints (natI (foldV bc br s.toList))) W) := by
  have HVS := hide (validSmall_c bc br s W)
  unfold foldV
  cases hk : smallK bc br s.toList with
  | none =>
    rw [hk] at HVS
    clear hk
    go_enter Try.func7, Try.ntmps7
    go_wp2_with fail
    refine HVS.out.mono ?_
    rintro e w1 ⟨rfl, b1⟩
    go_wp2_with fail
    go_ret
    exact ⟨_, rfl, World.ownsRow_nil _ _ _ _, b1⟩
  | some p =>
    obtain ⟨ss, far⟩ := p
    rw [hk] at HVS
    obtain ⟨hS, hkk⟩ := smallK_some hk
    have HSR := hide (fun w5 => reaches_c bc br s ss far w5 hkk hS)
    obtain ⟨n, hC⟩ := chase_of hS hkk
    have hff := fold_from hC.len hC.tab
    have h9s := hC.sets
    have hlen := hC.len
    have hn1 := hC.one
    simp only
    clear hk hS hkk hC
    generalize setsP bc br far ss = L at *
    generalize foldN L = F at *
    have HM := hide (fun (A : Option Addr) (c : Nat) (w5 : World) (hr : Row w5 A (ints (natI L))) => foldOrder_c A c L F n w5 hlen hn1 h9s hff hr)
    rw [hlen] at HSR
    clear h9s hlen hff
    go_enter Try.func7, Try.ntmps7
    go_wp2_with fail
    refine HVS.out.mono ?_
    rintro e w1 ⟨rfl, b1⟩
    go_wp2_with fail
    refine (HSR.out _).mono ?_
    rintro e w4 ⟨v4, rfl, o4, b4⟩
    obtain ⟨A4, c4, rfl, _⟩ := own_row o4
    have b14 := below_then b1 b1.size b4
    have R4 := hide (own_reads o4)
    clear o4
    go_wp2_with fail
    refine (HM.out _ _ _ R4.out).mono ?_
    rintro e w5 ⟨v5, rfl, o5, b5⟩
    have b15 := below_then b14 b14.size b5
    go_wp2_with fail
    go_ret
    exact ⟨_, rfl, own_mono o5 b14.size, b15⟩
end Go.Proofs.Ytakphmcelhbaiab
