/-
  GuardP, GuardA, GuardB, GuardC, GuardD, GuardQ in one text.
-/
import Derived.Test.YtmfdlijkpdgimaaGreatDoorPureM
import Derived.Test.YtmfdlijkpdgimaaGreatDoorBitM
import Derived.Test.YtmfdlijkpdgimaaGreatDoorSpecM
/-
  Guards purely: the sets reached from each cell, sets that guard all, loose sets; what the document says of them, for every small board, by the kernel.
-/
namespace Go.Proofs.YtmfdlijkpdgimaaGreatDoor
open Go.RowKit
set_option linter.unusedVariables false

/-- The set of the cells reached from a cell. -/
def setFrom (bc br : Int) (far : Bool) (ss : List (Int × Int)) (cell : Nat) : Nat := ((cellsP bc br far [] (cell : Int) ss).map fun x => 2 ^ x.toNat).sum
def setsP (bc br : Int) (far : Bool) (ss : List (Int × Int)) : List Nat := (List.range (bc * br).toNat).map (setFrom bc br far ss)
/-- How many numbers a set has. -/
def pcN : Nat → Nat → Nat
  | 0, _ => 0
  | f + 1, s => s % 2 + pcN f (s / 2)
/-- What the pieces on a set of cells guard, by the first k cells. -/
def overP (L : List Nat) (s : Nat) : Nat → Nat
  | 0 => s
  | k + 1 => if bitN s k = 1 then overP L s k ||| L[k]?.getD 0 else overP L s k
def guardsP (L : List Nat) (s : Nat) : Bool := overP L s L.length == 2 ^ L.length - 1
def looseTo (L : List Nat) (s : Nat) : Nat → Bool
  | 0 => true
  | k + 1 => looseTo L s k && !(bitN s k == 1 && (L[k]?.getD 0) &&& s != 0)
def looseP (L : List Nat) (s : Nat) : Bool := looseTo L s L.length
/-- The fewest cells of a set below k that is fine; n if none has fewer. -/
def scanP (n : Nat) (ok : Nat → Bool) : Nat → Nat
  | 0 => n
  | k + 1 => if pcN n k < scanP n ok k && ok k then pcN n k else scanP n ok k
def fewGuards (L : List Nat) : Nat := scanP L.length (guardsP L) (2 ^ L.length)
def fewFull (L : List Nat) : Nat := scanP L.length (fun s => looseP L s && guardsP L s) (2 ^ L.length)
/-- The lowest cell of a set. -/
def lowN : Nat → Nat → Nat → Nat
  | 0, _, at_ => at_
  | f + 1, s, at_ => if bitN s at_ = 0 then lowN f s (at_ + 1) else at_
def mostP (L : List Nat) : Nat → Nat → Option Nat
  | 0, _ => none
  | f + 1, left => if left = 0 then some 0 else
      let k := lowN L.length left 0
      let rest := left - 2 ^ k
      match mostP L f (rest - (rest &&& L[k]?.getD 0)) with
      | none => none
      | some a => if (L[k]?.getD 0) &&& rest != 0 then
          match mostP L f rest with
          | none => none
          | some b => some (max (1 + a) b)
        else some (1 + a)
def loosesP (L : List Nat) : Nat → Nat → Option Nat
  | 0, _ => none
  | f + 1, left => if left = 0 then some 1 else
      let k := lowN L.length left 0
      let rest := left - 2 ^ k
      match loosesP L f rest, loosesP L f (rest - (rest &&& L[k]?.getD 0)) with
      | some a, some b => some (a + b)
      | _, _ => none
def mostL (L : List Nat) : Nat := (mostP L (L.length + 1) (2 ^ L.length - 1)).getD 0
def countL (L : List Nat) : Nat := (loosesP L (L.length + 1) (2 ^ L.length - 1)).getD 0
/-- Loose sets counted one by one. -/
def oneByOne (L : List Nat) : Nat → Nat
  | 0 => 0
  | k + 1 => if looseP L k then oneByOne L k + 1 else oneByOne L k
def kinds6 : List (List (Int × Int) × Bool) := [(straight, false), (both, false), (knights, false), (straight, true), (slanted, true), (both, true)]
def Small (bc br : Int) : Prop := 1 ≤ bc ∧ bc ≤ 5 ∧ 1 ≤ br ∧ br ≤ 5 ∧ bc * br ≤ 9
/-- What holds of one kind on one board. -/
def guardOk (bc br : Nat) (p : List (Int × Int) × Bool) : Bool :=
  let L := setsP bc br p.2 p.1
  let T := setsP br bc p.2 p.1
  let g := fewGuards L
  let f := fewFull L
  let m := mostL L
  let c := countL L
  decide (1 ≤ g) && decide (g ≤ f) && decide (f ≤ m) && (fewGuards T == g) && (mostL T == m) && (mostP L (L.length + 1) (2 ^ L.length - 1)).isSome && (loosesP L (L.length + 1) (2 ^ L.length - 1)).isSome && (c == oneByOne L (2 ^ L.length)) && decide (L.length + 1 ≤ c)
theorem guard_all : ∀ a : Fin 5, ∀ b : Fin 5, (a.val + 1) * (b.val + 1) ≤ 9 → kinds6.all (guardOk (a.val + 1) (b.val + 1)) = true := by decide +kernel
/-- What holds of kings, rooks and queens. -/
def guardKinds (bc br : Nat) : Bool :=
  let K := setsP bc br false both
  let R := setsP bc br true straight
  let B := setsP bc br true slanted
  let Q := setsP bc br true both
  let q := fewGuards Q
  let r := fewGuards R
  (mostL R == min bc br) && (mostL K == (bc + 1) / 2 * ((br + 1) / 2)) && (fewGuards K == (bc + 2) / 3 * ((br + 2) / 3)) && (fewFull K == (bc + 2) / 3 * ((br + 2) / 3)) && (r == min bc br) && decide (q ≤ r) && decide (q ≤ fewGuards B) && decide (q ≤ fewGuards K)
theorem guard_kinds : ∀ a : Fin 5, ∀ b : Fin 5, (a.val + 1) * (b.val + 1) ≤ 9 → guardKinds (a.val + 1) (b.val + 1) = true := by decide +kernel
end Go.Proofs.YtmfdlijkpdgimaaGreatDoor

/-
  Guards: powers up to 512, how many cells a set has, the model's bit of a set of nine.
-/
namespace Go.Proofs.YtmfdlijkpdgimaaGreatDoor
open Go.RowKit
set_option linter.unusedVariables false

theorem pcN_zero : ∀ f, pcN f 0 = 0
  | 0 => rfl
  | f + 1 => by simp only [pcN]; rw [Nat.zero_div, pcN_zero f]
theorem pcN_le : ∀ f x, pcN f x ≤ x
  | 0, x => Nat.zero_le _
  | f + 1, x => by simp only [pcN]; have := pcN_le f (x / 2); omega
theorem pcN_st : ∀ (f g x : Nat), x ≤ f → x ≤ g → pcN f x = pcN g x
  | 0, g, x, h, _ => by obtain rfl : x = 0 := by omega
                        rw [pcN_zero, pcN_zero]
  | f + 1, 0, x, _, h => by obtain rfl : x = 0 := by omega
                            rw [pcN_zero, pcN_zero]
  | f + 1, g + 1, x, h1, h2 => by simp only [pcN]; rw [pcN_st f g (x / 2) (by omega) (by omega)]
theorem pcN_half {x : Nat} (h : x ≤ 512) : pcN 512 x = x % 2 + pcN 512 (x / 2) := by
  conv => lhs; unfold pcN
  rw [pcN_st 511 512 (x / 2) (by omega) (by omega)]
/-- A set of n cells is counted by n halvings. -/
theorem pcN_small : ∀ n : Fin 10, ∀ s : Fin 512, s.val < 2 ^ n.val → pcN n.val s.val = pcN 512 s.val := by decide +kernel

set_option maxHeartbeats 400000 in
theorem specBits_c (s : Nat) (hs : s ≤ 512) (w : World) : Calls Tryz.prog 53 #[.int .i64 (s : Int)] w fun e w' => e = .returned (.int .i64 ((pcN 512 s : Nat) : Int)) ∧ w = w' := by
  have hle := pcN_le 512 s
  go_enter Tryz.func53, Tryz.ntmps53
  go_wp2_with fail
  go_loopw [0, 3] (fun a p wr => ∃ x m : Nat, x ≤ 512 ∧ a = .int .i64 (x : Int) ∧ p = .int .i64 (m : Int) ∧ Hid (m + pcN 512 x = pcN 512 s) ∧ w = wr) (fun a _ _ => (intOf a).toNat)
  case atStart => exact ⟨s, 0, hs, rfl, rfl, Nat.zero_add _, rfl⟩
  case round =>
    obtain ⟨x, m, hx, rfl, rfl, hm, rfl⟩ := hrel
    by_cases hp : 0 < x
    · have hh := hide (pcN_half hx)
      have hmb : m ≤ 512 := by have := hm.out; omega
      have hd : x / 2 < x := by omega
      have hr : x % 2 ≤ 1 := by omega
      have t1 : Int.tdiv (x : Int) 2 = ((x / 2 : Nat) : Int) := Int.tdiv_eq_ediv_of_nonneg (by omega)
      have t2 : Int.tmod (x : Int) 2 = ((x % 2 : Nat) : Int) := Int.tmod_eq_emod_of_nonneg (by omega)
      have hp' : (0 : Int) < (x : Int) := by omega
      generalize hQ : x / 2 = q at *
      generalize hR : x % 2 = r at *
      have e1 : IntKind.i64.wrap (q : Int) = (q : Int) := IntWalk.i64_in _ (by omega)
      have e2 : IntKind.i64.wrap (r : Int) = (r : Int) := IntWalk.i64_in _ (by omega)
      have e3 : IntKind.i64.wrap ((m : Int) + (r : Int)) = ((m + r : Nat) : Int) := (IntWalk.i64_in _ (by omega)).trans (by omega)
      have HN : Hid (m + r + pcN 512 q = pcN 512 s) := by
        show _ = _
        have i1 := hm.out
        have i2 := hh.out
        rw [i2] at i1
        omega
      have hqx : (q : Int) < (x : Int) := by omega
      clear hQ hR hle hm hh
      go_wp2_with fail
      exact ⟨⟨q, m + r, by omega, rfl, rfl, HN, trivial⟩, by simp [intOf]; omega⟩
    · obtain rfl : x = 0 := by omega
      have hm' := hm.out
      rw [pcN_zero] at hm'
      have HM := hide hm'
      clear hm hm' hle
      go_wp2_with fail
      go_ret
      exact ⟨by rw [← HM.out]; rfl, rfl⟩

end Go.Proofs.YtmfdlijkpdgimaaGreatDoor

/-
  Guards: the model's guards and loose on a set of nine cells.
-/
namespace Go.Proofs.YtmfdlijkpdgimaaGreatDoor
open Go.RowKit
set_option linter.unusedVariables false

theorem i64_or9 (a b : Nat) (ha : a < 512) (hb : b < 512) : bits .or .i64 (a : Int) (b : Int) = ((a ||| b : Nat) : Int) ∧ a ||| b < 512 := by
  have hx : a ||| b < 2 ^ 9 := Nat.or_lt_two_pow (by omega) (by omega)
  have h1 : (BitVec.ofInt 64 (a : Int)).toNat = a := by
    rw [BitVec.ofInt_natCast, BitVec.toNat_ofNat]; exact Nat.mod_eq_of_lt (by omega)
  have h2 : (BitVec.ofInt 64 (b : Int)).toNat = b := by
    rw [BitVec.ofInt_natCast, BitVec.toNat_ofNat]; exact Nat.mod_eq_of_lt (by omega)
  refine ⟨?_, by omega⟩
  show IntKind.i64.wrap ((BitVec.ofInt 64 (a : Int) ||| BitVec.ofInt 64 (b : Int)).toNat : Int) = _
  rw [BitVec.toNat_or, h1, h2]
  exact IntWalk.i64_in _ (by omega)
theorem i64_and9 (a b : Nat) (ha : a < 512) (hb : b < 512) : bits .and .i64 (a : Int) (b : Int) = ((a &&& b : Nat) : Int) ∧ a &&& b < 512 := by
  have hx : a &&& b < 2 ^ 9 := Nat.and_lt_two_pow _ (by omega)
  have h1 : (BitVec.ofInt 64 (a : Int)).toNat = a := by
    rw [BitVec.ofInt_natCast, BitVec.toNat_ofNat]; exact Nat.mod_eq_of_lt (by omega)
  have h2 : (BitVec.ofInt 64 (b : Int)).toNat = b := by
    rw [BitVec.ofInt_natCast, BitVec.toNat_ofNat]; exact Nat.mod_eq_of_lt (by omega)
  refine ⟨?_, by omega⟩
  show IntKind.i64.wrap ((BitVec.ofInt 64 (a : Int) &&& BitVec.ofInt 64 (b : Int)).toNat : Int) = _
  rw [BitVec.toNat_and, h1, h2]
  exact IntWalk.i64_in _ (by omega)
def natI (L : List Nat) : List Int := L.map fun (x : Nat) => Int.ofNat x
theorem natI_len (L : List Nat) : (natI L).length = L.length := by simp [natI]
theorem natI_at (L : List Nat) (k : Nat) : (natI L)[k]?.getD 0 = ((L[k]?.getD 0 : Nat) : Int) := by
  rw [natI, List.getElem?_map]
  cases L[k]? <;> rfl
/-- Sets of at most nine cells, one for each cell. -/
structure Sets9 (L : List Nat) : Prop where
  len : L.length ≤ 9
  bd : ∀ k : Nat, L[k]?.getD 0 < 512
theorem over_bd {L : List Nat} (h : Sets9 L) {s : Nat} (hs : s < 512) : ∀ k, overP L s k < 512
  | 0 => hs
  | k + 1 => by
    simp only [overP]
    split
    · exact (i64_or9 _ _ (over_bd h hs k) (h.bd k)).2
    · exact over_bd h hs k

end Go.Proofs.YtmfdlijkpdgimaaGreatDoor

/-
  Guards: the model's sets of cells reached.
-/
namespace Go.Proofs.YtmfdlijkpdgimaaGreatDoor
open Go.RowKit
set_option linter.unusedVariables false

def sumPow (R : List Int) : Nat → Nat
  | 0 => 0
  | k + 1 => sumPow R k + 2 ^ (R[k]?.getD 0).toNat
theorem sumPow_take (R : List Int) : ∀ k, k ≤ R.length → sumPow R k = ((R.take k).map fun x => 2 ^ x.toNat).sum
  | 0, _ => by simp [sumPow]
  | k + 1, h => by
    rw [sumPow, sumPow_take R k (by omega), List.take_succ_eq_append_getElem h, List.getElem?_eq_getElem h, List.map_append, List.sum_append]
    simp only [List.map_cons, List.map_nil, List.sum_cons, List.sum_nil, Nat.add_zero, Option.getD_some]
theorem sumPow_bd (R : List Int) (h : ∀ i, i < R.length → 0 ≤ R[i]?.getD 0 ∧ R[i]?.getD 0 < 9) : ∀ k, k ≤ R.length → sumPow R k ≤ 256 * k
  | 0, _ => Nat.le_refl _
  | k + 1, hk => by
    have h1 := sumPow_bd R h k (by omega)
    obtain ⟨h2, h3⟩ := h k (by omega)
    have h4 : 2 ^ (R[k]?.getD 0).toNat ≤ 2 ^ 8 := Nat.pow_le_pow_right (by omega) (by omega)
    rw [sumPow]
    omega
theorem sumPow_reach {bc br : Int} {far : Bool} {ss : List (Int × Int)} {k : Nat} : sumPow (reachP bc br far [] (k : Int) ss) (reachP bc br far [] (k : Int) ss).length = setFrom bc br far ss k := by
  rw [sumPow_take _ _ (Nat.le_refl _), List.take_length, setFrom]
  exact ((List.mergeSort_perm _ _).map _).sum_nat
theorem reach_cells {bc br : Int} {far : Bool} {ss : List (Int × Int)} {k : Int} (h1 : 1 ≤ bc) (h2 : bc ≤ 5) (h3 : 1 ≤ br) (h4 : br ≤ 5) (i : Nat) (hi : i < (reachP bc br far [] k ss).length) : 0 ≤ (reachP bc br far [] k ss)[i]?.getD 0 ∧ (reachP bc br far [] k ss)[i]?.getD 0 < bc * br := by
  rw [List.getElem?_eq_getElem hi, Option.getD_some]
  exact cells_in h1 h2 h3 h4 _ ((List.mergeSort_perm _ _).mem_iff.1 (List.getElem_mem hi))

set_option maxHeartbeats 2000000 in
set_option maxRecDepth 100000 in
theorem reaches_c (bc br : Int) (s : ByteArray) (ss : List (Int × Int)) (far : Bool) (w : World) (hk : kindL s.toList = some (ss, far)) (hS : Small bc br) :
    Calls Tryz.prog 37 #[.int .i64 bc, .int .i64 br, .string s] w (Owns 3 1 (setsP bc br far ss).length (ints (natI (setsP bc br far ss))) w) := by
  obtain ⟨h1, h2, h3, h4, h9⟩ := hS
  obtain ⟨m1, m2⟩ := mul_bd h1 h2 h3 h4
  obtain ⟨n, hn⟩ : ∃ n : Nat, bc * br = (n : Int) := ⟨(bc * br).toNat, by omega⟩
  have hlen : (setsP bc br far ss).length = n := by simp [setsP, hn]
  have hn9 : n ≤ 9 := by omega
  have HX := hide (fun (k : Nat) (hkn : k < n) => show ∃ R : List Int, R.length ≤ 1000 ∧ sumPow R R.length = (setsP bc br far ss)[k]?.getD 0 ∧ (∀ i, i < R.length → 0 ≤ R[i]?.getD 0 ∧ R[i]?.getD 0 < 9) ∧ ∀ (O : Option Addr) (oc : Nat) (w5 : World), Calls Tryz.prog 30 #[.int .i64 bc, .int .i64 br, .string s, .int .i64 (k : Int), .slice O 0 oc] w5 (Owns 3 1 R.length (ints R) w5) by
    refine ⟨reachP bc br far [] (k : Int) ss, ?_, ?_, ?_, ?_⟩
    · have := reach_len bc br far [] (k : Int) ss
      have := (kind_ok hk).2.1
      omega
    · rw [sumPow_reach, setsP, List.getElem?_map, List.getElem?_range (by omega)]
      rfl
    · intro i hi
      have := reach_cells h1 h2 h3 h4 i hi
      omega
    · intro O oc w5
      exact specReach_c bc br k s O oc ss far [] w5 hk h1 h2 h3 h4 (by omega) (by omega) (Row.empty _ _) (by simp [maxLen]))
  rw [hlen]
  have HP := hide (fun (j : Nat) (hj : j ≤ 9) w5 => specPower9_c j hj w5)
  have e0 : IntKind.i64.wrap (bc * br) = (n : Int) := (IntWalk.i64_in _ (by omega)).trans hn
  have HN := hide hn
  clear hk hn
  have HT := hide (fun (k : Nat) (hkn : k < n) => show natI ((setsP bc br far ss).take (k + 1)) = natI ((setsP bc br far ss).take k) ++ [(((setsP bc br far ss)[k]?.getD 0 : Nat) : Int)] by
    rw [List.take_succ_eq_append_getElem (by omega), List.getElem?_eq_getElem (by omega)]
    unfold natI
    rw [List.map_append]
    rfl)
  have HTn := hide (show (setsP bc br far ss).take n = setsP bc br far ss from List.take_of_length_le (by omega))
  generalize setsP bc br far ss = L at *
  go_enter Tryz.func37, Tryz.ntmps37
  go_wp2_with fail
  go_loopw [7, 8] (fun v i wr => ∃ k : Nat, k ≤ n ∧ i = .int .i64 (k : Int) ∧ wr.ownsRow w.heap.size 3 1 v k (ints (natI (L.take k))) ∧ Below w.heap.size w wr) (fun _ i _ => n - (intOf i).toNat)
  case atStart => exact ⟨0, Nat.zero_le _, rfl, by simpa [natI, ints] using World.ownsRow_made w #[] 0 (Nat.le_refl _) (by simp [maxLen]) rfl, (Below.refl _ _).alloc (Nat.le_refl _) _⟩
  case round =>
    obtain ⟨k, hk, rfl, hown, hb⟩ := hrel
    obtain ⟨wo, rfl⟩ : ∃ wo : World, wo = wr := ⟨_, rfl⟩
    have z := hb.size
    obtain ⟨A0, c0, rfl, _⟩ := own_row hown
    by_cases hlt : k < n
    · obtain ⟨R, hRl, hRs, hRb, hRc⟩ := HX.out k hlt
      have HRB := hide (sumPow_bd R hRb)
      have HRb := hide hRb
      have HRs := hide hRs
      have HRc := hide hRc
      have HTk := hide (HT.out k hlt)
      clear hRb hRs hRc
      generalize L[k]?.getD 0 = x at *
      have hba := hb.alloc z (.cells #[] 3)
      have hva := hide (hown.alloc (.cells #[] 3))
      go_wp2_with fail
      refine (HRc.out _ _ _).mono ?_
      rintro e w5 ⟨v5, rfl, o5, b5⟩
      have bx := below_then hba hba.size b5
      have hvb := hide (own_below hva.out b5)
      obtain ⟨A5, c5, rfl, _⟩ := own_row o5
      have R5 := hide (own_reads o5)
      clear o5 b5
      go_wp2_with fail
      go_loopw [9, 11] (fun a i wi => ∃ j : Nat, j ≤ R.length ∧ i = .int .i64 (j : Int) ∧ a = .int .i64 ((sumPow R j : Nat) : Int) ∧ w5 = wi) (fun _ i _ => R.length - (intOf i).toNat)
      case atStart => exact ⟨0, Nat.zero_le _, rfl, rfl, rfl⟩
      case round =>
        obtain ⟨j, hj, rfl, rfl, rfl⟩ := hrel
        have hsb := HRB.out j hj
        by_cases hjl : j < R.length
        · obtain ⟨ad, rfl, hcj⟩ := R5.out.int (k := j) hjl
          obtain ⟨y0, y9⟩ := HRb.out j hjl
          obtain ⟨y, hy⟩ := Int.eq_ofNat_of_zero_le y0
          have HJ : Hid (sumPow R (j + 1) = sumPow R j + 2 ^ y) := by show sumPow R j + 2 ^ (R[j]?.getD 0).toNat = _; rw [hy]; rfl
          have hy9 : y ≤ 9 := by omega
          rw [hy] at hcj
          have HPy := hide (fun w5 => HP.out y hy9 w5)
          have hpb := pow9 hy9
          clear hy y0 y9
          generalize sumPow R j = a at *
          generalize 2 ^ y = p at *
          have e1 : IntKind.i64.wrap ((a : Int) + (p : Int)) = ((a + p : Nat) : Int) := (IntWalk.i64_in _ (by omega)).trans (by omega)
          have j0 : (0 : Int) ≤ (j : Int) := by omega
          have j1 : (j : Int) < (R.length : Int) := by omega
          go_wp2_with fail
          refine (HPy.out _).mono ?_
          rintro e w7 ⟨rfl, rfl⟩
          go_wp2_with fail
          exact ⟨⟨j + 1, hjl, by go_num, by rw [HJ.out]; push_cast; rfl, trivial⟩, by simp [intOf]; omega⟩
        · obtain rfl : j = R.length := by omega
          rw [HRs.out]
          have hvc := hide (hvb.out.alloc (.cells #[.int .i64 (x : Int)] 3))
          have hbc := bx.alloc bx.size (.cells #[.int .i64 (x : Int)] 3)
          go_wp2_with ((at_builtin; refine put_own rfl (.tmp 39) (.tmp 41) rfl Tryz.underlying35 elem_int' rfl hvc.out rfl (m := 1) (news := [.int .i64 (x : Int)]) rfl (row_new _ _ _ rfl) (by simp [Value.oneCell']) (by omega) (by omega) hbc.size ?_; intro v9 w9 own9 hg9 ho9))
          exact ⟨⟨k + 1, hlt, by go_num, by rw [HTk.out]; simpa [ints] using own9, below_grown hbc hbc.size hvc.out (Nat.le_refl _) hg9⟩, by simp [intOf]; omega⟩
    · obtain rfl : k = n := by omega
      rw [HTn.out] at hown
      go_wp2_with fail
      go_ret
      exact ⟨_, rfl, hown, hb⟩
end Go.Proofs.YtmfdlijkpdgimaaGreatDoor

/-
  Guards: the model's validSmall and FewestGuards.
-/
namespace Go.Proofs.YtmfdlijkpdgimaaGreatDoor
open Go.RowKit
set_option linter.unusedVariables false

instance (bc br : Int) : Decidable (Small bc br) := by unfold Small; infer_instance
theorem kind_six6 {s : List UInt8} {ss : List (Int × Int)} {far : Bool} (h : kindL s = some (ss, far)) : (ss, far) ∈ kinds6 := by
  unfold kindL at h
  repeat' (split at h)
  all_goals first | (simp only [Option.some.injEq] at h; rw [← h]; decide) | cases h
theorem sets_small : ∀ a : Fin 5, ∀ b : Fin 5, (a.val + 1) * (b.val + 1) ≤ 9 → kinds6.all (fun p => (setsP ((a.val + 1 : Nat) : Int) ((b.val + 1 : Nat) : Int) p.2 p.1).all fun x => decide (x < 512)) = true := by decide +kernel
theorem sets9_of {bc br : Int} {s : List UInt8} {ss : List (Int × Int)} {far : Bool} (hS : Small bc br) (hk : kindL s = some (ss, far)) : Sets9 (setsP bc br far ss) ∧ ((setsP bc br far ss).length : Int) = bc * br := by
  obtain ⟨h1, h2, h3, h4, h9⟩ := hS
  obtain ⟨a, rfl⟩ : ∃ a : Nat, bc = ((a + 1 : Nat) : Int) := ⟨(bc - 1).toNat, by omega⟩
  obtain ⟨b, rfl⟩ : ∃ b : Nat, br = ((b + 1 : Nat) : Int) := ⟨(br - 1).toNat, by omega⟩
  have h9' : (a + 1) * (b + 1) ≤ 9 := by
    have : (((a + 1) * (b + 1) : Nat) : Int) ≤ 9 := by rw [Int.natCast_mul]; exact h9
    omega
  have := List.all_eq_true.1 (sets_small ⟨a, by omega⟩ ⟨b, by omega⟩ h9') _ (kind_six6 hk)
  have hb := List.all_eq_true.1 this
  have hl : (setsP ((a + 1 : Nat) : Int) ((b + 1 : Nat) : Int) far ss).length = (a + 1) * (b + 1) := by
    simp only [setsP, List.length_map, List.length_range]
    rw [← Int.natCast_mul]
    rfl
  refine ⟨⟨by omega, fun k => ?_⟩, by rw [hl, Int.natCast_mul]⟩
  cases hx : (setsP ((a + 1 : Nat) : Int) ((b + 1 : Nat) : Int) far ss)[k]? with
  | none => exact (by decide : (0 : Nat) < 512)
  | some x => exact of_decide_eq_true (hb x (List.mem_of_getElem? hx))
/-- The kind, if the board is small. -/
def smallK (bc br : Int) (s : List UInt8) : Option (List (Int × Int) × Bool) := if Small bc br then kindL s else none
theorem smallK_some {bc br : Int} {s : List UInt8} {ss : List (Int × Int)} {far : Bool} (h : smallK bc br s = some (ss, far)) : Small bc br ∧ kindL s = some (ss, far) := by
  unfold smallK at h
  split at h
  · exact ⟨by assumption, h⟩
  · cases h
def valueOf (bc br : Int) (s : List UInt8) (f : List Nat → Nat) : Int :=
  match smallK bc br s with
  | some (ss, far) => ((f (setsP bc br far ss) : Nat) : Int)
  | none => -1

end Go.Proofs.YtmfdlijkpdgimaaGreatDoor

/-
  Guards as the program tries them, purely: the same answers, of every small board and kind, by the kernel.
-/
namespace Go.Proofs.YtmfdlijkpdgimaaGreatDoor
open Go.RowKit
set_option linter.unusedVariables false

/-- The first k cells are all guarded. -/
def guardTo (L : List Nat) (s : Nat) : Nat → Bool
  | 0 => true
  | k + 1 => guardTo L s k && !(s &&& (L[k]?.getD 0 ||| 2 ^ k) == 0)
def guardQ (L : List Nat) (s : Nat) : Bool := guardTo L s L.length
def orL (l : List Int) : Nat := l.foldl (fun s x => s ||| 2 ^ x.toNat) 0
def minOf (l : List Nat) : Nat := l.foldl (fun a s => min a (pcN 9 s)) (pcN 9 (l[0]?.getD 0))
def maxOf (l : List Nat) : Nat := l.foldl (fun a s => max a (pcN 9 s)) 0
/-- The sets below P of which all tests hold. -/
def setsOf (tests : List (Nat → Bool)) (P : Nat) : List Nat := (List.range P).filter fun s => tests.all fun t => t s
def triedOk (bc br : Nat) (p : List (Int × Int) × Bool) : Bool :=
  let L := setsP bc br p.2 p.1
  let P := 2 ^ L.length
  let G := setsOf [guardQ L] P
  let F := setsOf [looseP L, guardQ L] P
  let l := setsOf [looseP L] P
  decide (0 < G.length) && decide (0 < F.length) && (minOf G == fewGuards L) && (minOf F == fewFull L) && (maxOf l == mostL L) && (l.length == countL L)
theorem tried_all : ∀ a : Fin 5, ∀ b : Fin 5, (a.val + 1) * (b.val + 1) ≤ 9 → kinds6.all (triedOk (a.val + 1) (b.val + 1)) = true := by decide +kernel
def orOk (bc br : Nat) (p : List (Int × Int) × Bool) : Bool :=
  (List.range (bc * br)).all fun (k : Nat) => orL (ascP (cellsP bc br p.2 [] (k : Int) p.1)) == setFrom bc br p.2 p.1 k
theorem or_all : ∀ a : Fin 5, ∀ b : Fin 5, (a.val + 1) * (b.val + 1) ≤ 9 → kinds6.all (orOk (a.val + 1) (b.val + 1)) = true := by decide +kernel
end Go.Proofs.YtmfdlijkpdgimaaGreatDoor
