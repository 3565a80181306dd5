/-
  BitP, BitA, GuardP, GuardQ in one text.
-/
import Derived.Test.YtoapmmmmdfmaeacBase
import Derived.Test.YtoapmmmmdfmaeacSpecM
import Derived.Test.YtoapmmmmdfmaeacPureM
namespace Go.Proofs.Ytoapmmmmdfmaeac
def bitN (s i : Nat) : Nat := s / 2 ^ i % 2
theorem bitN_two (s k : Nat) : bitN s k = 0 ∨ bitN s k = 1 := by unfold bitN; omega
end Go.Proofs.Ytoapmmmmdfmaeac

/-
  The model's powers up to 512 and bits of sets of nine.
-/
namespace Go.Proofs.Ytoapmmmmdfmaeac
open Go.RowKit
set_option linter.unusedVariables false

theorem pow9 {n : Nat} (h : n ≤ 9) : 1 ≤ 2 ^ n ∧ 2 ^ n ≤ 512 :=
  ⟨Nat.one_le_two_pow, Nat.le_trans (Nat.pow_le_pow_right (by omega) h) (by decide)⟩
theorem specPower9_c (n : Nat) (hn : n ≤ 9) (w : World) : Calls Try.prog 49 #[.int .i64 (n : Int)] w fun e w' => e = .returned (.int .i64 ((2 ^ n : Nat) : Int)) ∧ w = w' := by
  go_enter Try.func49, Try.ntmps49
  go_wp2_with fail
  go_loopw [0, 3] (fun a p wr => ∃ k : Nat, k ≤ n ∧ a = .int .i64 ((n - k : Nat) : Int) ∧ p = .int .i64 ((2 ^ k : Nat) : Int) ∧ w = wr) (fun a _ _ => (intOf a).toNat)
  case atStart => exact ⟨0, Nat.zero_le _, by simp, rfl, rfl⟩
  case round =>
    obtain ⟨k, hk, rfl, rfl, rfl⟩ := hrel
    by_cases hlt : k < n
    · have hb := pow9 (n := k) (by omega)
      have hpos : (0 : Int) < ((n - k : Nat) : Int) := by omega
      have hle : ((n - k : Nat) : Int) ≤ 9 := by omega
      have hp2 : Hid ((2 ^ (k + 1) : Nat) = 2 * 2 ^ k) := by show 2 ^ (k + 1) = 2 * 2 ^ k; rw [Nat.pow_succ, Nat.mul_comm]
      have hs := hide (show ((n - k : Nat) : Int) - 1 = ((n - (k + 1) : Nat) : Int) by omega)
      generalize hP : (2 ^ k : Nat) = P at *
      generalize hM : ((n - k : Nat) : Int) = M at *
      clear hP
      go_wp2_with fail
      exact ⟨⟨k + 1, hlt, by rw [hs.out], by rw [hp2.out]; push_cast; rfl, trivial⟩, by simp [intOf]; omega⟩
    · have hkk : Hid (k = n) := hide (by omega)
      have hz : ((n - k : Nat) : Int) = 0 := by omega
      rw [hz]
      go_wp2_with fail
      go_ret
      exact ⟨by rw [hkk.out]; rfl, rfl⟩

set_option maxHeartbeats 400000 in
theorem specBit9_c (x j : Nat) (hx : x < 512) (hj : j ≤ 9) (w : World) : Calls Try.prog 45 #[.int .i64 (x : Int), .int .i64 (j : Int)] w fun e w' => e = .returned (.int .i64 ((bitN x j : Nat) : Int)) ∧ w = w' := by
  have HP := hide (fun w5 => specPower9_c j hj w5)
  obtain ⟨p1, p2⟩ := pow9 (n := j) hj
  have hb : Hid (bitN x j = x / 2 ^ j % 2) := rfl
  have hb2 : bitN x j ≤ 1 := by unfold bitN; omega
  have hq : x / 2 ^ j ≤ x := Nat.div_le_self _ _
  have t1 : Int.tdiv (x : Int) ((2 ^ j : Nat) : Int) = ((x / 2 ^ j : Nat) : Int) := Int.tdiv_eq_ediv_of_nonneg (Int.natCast_nonneg _)
  have t2 : Int.tmod ((x / 2 ^ j : Nat) : Int) 2 = ((bitN x j : Nat) : Int) := Int.tmod_eq_emod_of_nonneg (Int.natCast_nonneg _)
  generalize bitN x j = bv at *
  generalize x / 2 ^ j = q at *
  generalize 2 ^ j = P at *
  have e0 : IntKind.i64.wrap (q : Int) = (q : Int) := IntWalk.i64_in _ (by omega)
  have e1 : IntKind.i64.wrap (bv : Int) = (bv : Int) := IntWalk.i64_in _ (by omega)
  have hP : (P : Int) ≠ 0 := by omega
  clear hb
  go_enter Try.func45, Try.ntmps45
  go_wp2_with fail
  refine (HP.out _).mono ?_
  rintro e w1 ⟨rfl, rfl⟩
  go_wp2_with fail
  go_ret
  exact ⟨rfl, rfl⟩
end Go.Proofs.Ytoapmmmmdfmaeac

/-
  Guards purely: the sets reached from each cell, sets that guard all, loose sets; what the document says of them, for every small board, by the kernel.
-/
namespace Go.Proofs.Ytoapmmmmdfmaeac
open Go.RowKit
set_option linter.unusedVariables false

/-- The set of the cells reached from a cell. -/
def setFrom (bc br : Int) (far : Bool) (ss : List (Int × Int)) (cell : Nat) : Nat := ((cellsP bc br far [] (cell : Int) ss).map fun x => 2 ^ x.toNat).sum
def setsP (bc br : Int) (far : Bool) (ss : List (Int × Int)) : List Nat := (List.range (bc * br).toNat).map (setFrom bc br far ss)
/-- How many numbers a set has. -/
def pcN : Nat → Nat → Nat
  | 0, _ => 0
  | f + 1, s => s % 2 + pcN f (s / 2)
/-- What the pieces on a set of cells guard, by the first k cells. -/
def overP (L : List Nat) (s : Nat) : Nat → Nat
  | 0 => s
  | k + 1 => if bitN s k = 1 then overP L s k ||| L[k]?.getD 0 else overP L s k
def guardsP (L : List Nat) (s : Nat) : Bool := overP L s L.length == 2 ^ L.length - 1
def looseTo (L : List Nat) (s : Nat) : Nat → Bool
  | 0 => true
  | k + 1 => looseTo L s k && !(bitN s k == 1 && (L[k]?.getD 0) &&& s != 0)
def looseP (L : List Nat) (s : Nat) : Bool := looseTo L s L.length
/-- The fewest cells of a set below k that is fine; n if none has fewer. -/
def scanP (n : Nat) (ok : Nat → Bool) : Nat → Nat
  | 0 => n
  | k + 1 => if pcN n k < scanP n ok k && ok k then pcN n k else scanP n ok k
def fewGuards (L : List Nat) : Nat := scanP L.length (guardsP L) (2 ^ L.length)
def fewFull (L : List Nat) : Nat := scanP L.length (fun s => looseP L s && guardsP L s) (2 ^ L.length)
/-- The lowest cell of a set. -/
def lowN : Nat → Nat → Nat → Nat
  | 0, _, at_ => at_
  | f + 1, s, at_ => if bitN s at_ = 0 then lowN f s (at_ + 1) else at_
def mostP (L : List Nat) : Nat → Nat → Option Nat
  | 0, _ => none
  | f + 1, left => if left = 0 then some 0 else
      let k := lowN L.length left 0
      let rest := left - 2 ^ k
      match mostP L f (rest - (rest &&& L[k]?.getD 0)) with
      | none => none
      | some a => if (L[k]?.getD 0) &&& rest != 0 then
          match mostP L f rest with
          | none => none
          | some b => some (max (1 + a) b)
        else some (1 + a)
def loosesP (L : List Nat) : Nat → Nat → Option Nat
  | 0, _ => none
  | f + 1, left => if left = 0 then some 1 else
      let k := lowN L.length left 0
      let rest := left - 2 ^ k
      match loosesP L f rest, loosesP L f (rest - (rest &&& L[k]?.getD 0)) with
      | some a, some b => some (a + b)
      | _, _ => none
def mostL (L : List Nat) : Nat := (mostP L (L.length + 1) (2 ^ L.length - 1)).getD 0
def countL (L : List Nat) : Nat := (loosesP L (L.length + 1) (2 ^ L.length - 1)).getD 0
/-- Loose sets counted one by one. -/
def oneByOne (L : List Nat) : Nat → Nat
  | 0 => 0
  | k + 1 => if looseP L k then oneByOne L k + 1 else oneByOne L k
def kinds6 : List (List (Int × Int) × Bool) := [(straight, false), (both, false), (knights, false), (straight, true), (slanted, true), (both, true)]
def Small (bc br : Int) : Prop := 1 ≤ bc ∧ bc ≤ 5 ∧ 1 ≤ br ∧ br ≤ 5 ∧ bc * br ≤ 9
/-- What holds of one kind on one board. -/
def guardOk (bc br : Nat) (p : List (Int × Int) × Bool) : Bool :=
  let L := setsP bc br p.2 p.1
  let T := setsP br bc p.2 p.1
  let g := fewGuards L
  let f := fewFull L
  let m := mostL L
  let c := countL L
  decide (1 ≤ g) && decide (g ≤ f) && decide (f ≤ m) && (fewGuards T == g) && (mostL T == m) && (mostP L (L.length + 1) (2 ^ L.length - 1)).isSome && (loosesP L (L.length + 1) (2 ^ L.length - 1)).isSome && (c == oneByOne L (2 ^ L.length)) && decide (L.length + 1 ≤ c)
theorem guard_all : ∀ a : Fin 5, ∀ b : Fin 5, (a.val + 1) * (b.val + 1) ≤ 9 → kinds6.all (guardOk (a.val + 1) (b.val + 1)) = true := by decide +kernel
/-- What holds of kings, rooks and queens. -/
def guardKinds (bc br : Nat) : Bool :=
  let K := setsP bc br false both
  let R := setsP bc br true straight
  let B := setsP bc br true slanted
  let Q := setsP bc br true both
  let q := fewGuards Q
  let r := fewGuards R
  (mostL R == min bc br) && (mostL K == (bc + 1) / 2 * ((br + 1) / 2)) && (fewGuards K == (bc + 2) / 3 * ((br + 2) / 3)) && (fewFull K == (bc + 2) / 3 * ((br + 2) / 3)) && (r == min bc br) && decide (q ≤ r) && decide (q ≤ fewGuards B) && decide (q ≤ fewGuards K)
theorem guard_kinds : ∀ a : Fin 5, ∀ b : Fin 5, (a.val + 1) * (b.val + 1) ≤ 9 → guardKinds (a.val + 1) (b.val + 1) = true := by decide +kernel
end Go.Proofs.Ytoapmmmmdfmaeac

/-
  Guards as the program tries them, purely: the same answers, of every small board and kind, by the kernel.
-/
namespace Go.Proofs.Ytoapmmmmdfmaeac
open Go.RowKit
set_option linter.unusedVariables false

/-- The first k cells are all guarded. -/
def guardTo (L : List Nat) (s : Nat) : Nat → Bool
  | 0 => true
  | k + 1 => guardTo L s k && !(s &&& (L[k]?.getD 0 ||| 2 ^ k) == 0)
def guardQ (L : List Nat) (s : Nat) : Bool := guardTo L s L.length
def orL (l : List Int) : Nat := l.foldl (fun s x => s ||| 2 ^ x.toNat) 0
def minOf (l : List Nat) : Nat := l.foldl (fun a s => min a (pcN 9 s)) (pcN 9 (l[0]?.getD 0))
def maxOf (l : List Nat) : Nat := l.foldl (fun a s => max a (pcN 9 s)) 0
/-- The sets below P of which all tests hold. -/
def setsOf (tests : List (Nat → Bool)) (P : Nat) : List Nat := (List.range P).filter fun s => tests.all fun t => t s
def triedOk (bc br : Nat) (p : List (Int × Int) × Bool) : Bool :=
  let L := setsP bc br p.2 p.1
  let P := 2 ^ L.length
  let G := setsOf [guardQ L] P
  let F := setsOf [looseP L, guardQ L] P
  let l := setsOf [looseP L] P
  decide (0 < G.length) && decide (0 < F.length) && (minOf G == fewGuards L) && (minOf F == fewFull L) && (maxOf l == mostL L) && (l.length == countL L)
theorem tried_all : ∀ a : Fin 5, ∀ b : Fin 5, (a.val + 1) * (b.val + 1) ≤ 9 → kinds6.all (triedOk (a.val + 1) (b.val + 1)) = true := by decide +kernel
def orOk (bc br : Nat) (p : List (Int × Int) × Bool) : Bool :=
  (List.range (bc * br)).all fun (k : Nat) => orL (ascP (cellsP bc br p.2 [] (k : Int) p.1)) == setFrom bc br p.2 p.1 k
theorem or_all : ∀ a : Fin 5, ∀ b : Fin 5, (a.val + 1) * (b.val + 1) ≤ 9 → kinds6.all (orOk (a.val + 1) (b.val + 1)) = true := by decide +kernel
end Go.Proofs.Ytoapmmmmdfmaeac
