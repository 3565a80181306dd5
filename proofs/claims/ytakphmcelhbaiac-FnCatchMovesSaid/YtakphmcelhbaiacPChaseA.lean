
/-
  The program's chases: takes, isMet, noEscape, hasTurn.
-/
import Derived.Test.YtakphmcelhbaiacPGuardA
import Derived.Test.YtakphmcelhbaiacChaseM
namespace Go.Proofs.Ytakphmcelhbaiac
open Go.RowKit
set_option linter.unusedVariables false

theorem bit_test1 (s k : Nat) : (bitN s k == 1) = s.testBit k := by
  rw [Nat.testBit_eq_decide_div_mod_eq, Bool.eq_iff_iff, beq_iff_eq, decide_eq_true_eq]
  exact Iff.rfl
/-- The sets with their own cells. -/
def nearS (L : List Nat) : List Nat := (List.range L.length).map fun i => L[i]?.getD 0 ||| 2 ^ i
theorem nearS_len (L : List Nat) : (nearS L).length = L.length := by simp [nearS]
theorem nearS_at {L : List Nat} {i : Nat} (hi : i < L.length) : (nearS L)[i]?.getD 0 = L[i]?.getD 0 ||| 2 ^ i := by
  rw [nearS, List.getElem?_map, List.getElem?_range hi]
  rfl
theorem nearS_bd {L : List Nat} (h : Sets9 L) {i : Nat} (hi : i < L.length) : (nearS L)[i]?.getD 0 < 512 := by
  rw [nearS_at hi]
  have := h.len
  exact (i64_or9 _ _ (h.bd i) (Nat.lt_of_le_of_lt (Nat.pow_le_pow_right (by omega) (by omega : i ≤ 8)) (by decide))).2
theorem near_bit {L : List Nat} {i : Nat} (hi : i < L.length) (x : Nat) : (bitN ((nearS L)[i]?.getD 0) x == 1) = nearN L i x := by
  rw [nearS_at hi, bit_test1, Nat.testBit_or, Nat.testBit_two_pow, nearN, bit_test1, Bool.or_comm]
  congr 1
  rw [Bool.eq_iff_iff, decide_eq_true_eq, beq_iff_eq]
  exact eq_comm
/-- Wherever the other one goes, of the first y cells, it is a catch. -/
def escTo (L : List Nat) (P : Nat → Nat → Bool) (k x : Nat) : Nat → Bool
  | 0 => true
  | y + 1 => escTo L P k x y && !(nearN L k y && !P x y)
/-- A turn to one of the first x cells does it. -/
def turnTo (L : List Nat) (P : Nat → Nat → Bool) (i k : Nat) : Nat → Bool
  | 0 => false
  | x + 1 => turnTo L P i k x || (nearN L i x && (x == k || escTo L P k x L.length))
theorem escTo_no {L : List Nat} {P : Nat → Nat → Bool} {k x y : Nat} (h : escTo L P k x y = false) : ∀ m, escTo L P k x (y + m) = false
  | 0 => h
  | m + 1 => by
    show (escTo L P k x (y + m) && _) = false
    rw [escTo_no h m]
    rfl
theorem turnTo_yes {L : List Nat} {P : Nat → Nat → Bool} {i k x : Nat} (h : turnTo L P i k x = true) : ∀ m, turnTo L P i k (x + m) = true
  | 0 => h
  | m + 1 => by
    show (turnTo L P i k (x + m) || _) = true
    rw [turnTo_yes h m]
    rfl
abbrev placeV (h o : Nat) : Value := .agg #[.int .i64 (h : Int), .int .i64 (o : Int)]

set_option maxHeartbeats 1000000 in
theorem takes_c (A : Option Addr) (c : Nat) (L : List Nat) (i x : Nat) (w : World) (hr : Row w A (ints (natI (nearS L)))) (hL : Sets9 L) (hi : i < L.length) (hx : x < L.length) :
    Calls Try.prog 51 #[.slice A L.length c, .int .i64 (i : Int), .int .i64 (x : Int)] w fun e w' => e = .returned (.bool (nearN L i x)) ∧ w = w' := by
  obtain ⟨ad, rfl, hck⟩ := hr.int (k := i) (by rw [natI_len, nearS_len]; exact hi)
  rw [natI_at] at hck
  have h9 := hL.len
  have hb := nearS_bd hL hi
  have HB := hide (near_bit hi x)
  generalize (nearS L)[i]?.getD 0 = s at *
  have eb := shr9 s x hb
  have i0 : (0 : Int) ≤ (i : Int) := by omega
  have i1 : (i : Int) < (L.length : Int) := by omega
  have x9 : (x : Int) ≤ 64 := by omega
  clear hr hL
  rcases bitN_two s x with h | h
  · rw [h] at eb HB
    have HV : Hid (nearN L i x = false) := hide (HB.out.symm.trans rfl)
    clear HB h
    go_enter Try.func51, Try.ntmps51
    go_wp2_with fail
    go_ret
    exact ⟨by rw [HV.out]; rfl, rfl⟩
  · rw [h] at eb HB
    have HV : Hid (nearN L i x = true) := hide (HB.out.symm.trans rfl)
    clear HB h
    go_enter Try.func51, Try.ntmps51
    go_wp2_with fail
    go_ret
    exact ⟨by rw [HV.out]; rfl, rfl⟩
set_option maxHeartbeats 1000000 in
theorem isMet_c (h o : Nat) (w : World) : Calls Try.prog 33 #[placeV h o] w (Plain (.bool (h == o)) w) := by
  by_cases e : h = o
  · subst e
    have hq : (h == h) = true := by simp
    rw [hq]
    go_enter Try.func33, Try.ntmps33
    go_wp2_with fail
    go_ret
    exact ⟨rfl, (Below.refl _ _).alloc (Nat.le_refl _) _⟩
  · have hq : (h == o) = false := beq_eq_false_iff_ne.2 e
    have he : ¬ ((h : Int) = (o : Int)) := fun h' => e (by omega)
    rw [hq]
    clear e hq
    go_enter Try.func33, Try.ntmps33
    go_wp2_with fail
    go_ret
    exact ⟨rfl, (Below.refl _ _).alloc (Nat.le_refl _) _⟩
set_option maxHeartbeats 1000000 in
theorem noEscape_c (A : Option Addr) (c : Nat) (L : List Nat) (P : Nat → Nat → Bool) (g3 x k : Nat) (W : World) (hr : Row W A (ints (natI (nearS L)))) (hL : Sets9 L) (hx : x < L.length) (hk : k < L.length)
    (hf : ∀ h o, h < L.length → o < L.length → ∀ w1, Below W.heap.size W w1 → Calls Try.prog 32 #[placeV h o, .pointer (some ⟨g3, 0, none⟩)] w1 (Plain (.bool (P h o)) w1)) :
    Calls Try.prog 52 #[.slice A L.length c, placeV x k, .func (.func 32) #[] #[.pointer (some ⟨g3, 0, none⟩)]] W (Plain (.bool (escTo L P k x L.length)) W) := by
  have HR := hide hr
  have HF := hide hf
  have HT := hide (fun y (hy : y < L.length) (w5 : World) (h5 : Below W.heap.size W w5) => takes_c A c L k y w5 (hr.below h5) hL hk hy)
  have HS : Hid (∀ y, escTo L P k x (y + 1) = (escTo L P k x y && !(nearN L k y && !P x y))) := fun y => rfl
  have HN := hide (fun y (hy : y < L.length) (h : escTo L P k x (y + 1) = false) => show escTo L P k x L.length = false by
    have := escTo_no h (L.length - (y + 1))
    rwa [show y + 1 + (L.length - (y + 1)) = L.length by omega] at this)
  have h9 := hL.len
  have HX := hide hx
  clear hr hf hL hx hk
  go_enter Try.func52, Try.ntmps52
  go_wp2_with fail
  have bx := Box.new W 45 #[.int .i64 (x : Int), .int .i64 (k : Int)]
  have hb := (Below.refl W.heap.size W).alloc (Nat.le_refl _) (.cells #[.int .i64 (x : Int), .int .i64 (k : Int)] 45)
  go_loopw [10] (fun v wr => ∃ y : Nat, y ≤ L.length ∧ v = .int .i64 (y : Int) ∧ Hid (escTo L P k x y = true) ∧ Box wr W.heap.size 45 #[.int .i64 (x : Int), .int .i64 (k : Int)] ∧ Below W.heap.size W wr) (fun v _ => L.length - (intOf v).toNat)
  case atStart => exact ⟨0, Nat.zero_le _, rfl, rfl, bx, hb⟩
  case round =>
    clear bx hb
    obtain ⟨y, hy, rfl, hes, bx, hb⟩ := hrel
    obtain ⟨wo, rfl⟩ : ∃ wo : World, wo = wr := ⟨_, rfl⟩
    have c0 := bx.cell 0
    have c1 := bx.cell 1
    by_cases hyl : y < L.length
    · have HTy := hide (HT.out y hyl wo hb)
      have HSy := hide (HS.out y)
      have HNy := hide (HN.out y hyl)
      have HYL := hide hyl
      have y1 : (y : Int) < (L.length : Int) := by omega
      cases hn : nearN L k y with
      | false =>
        rw [hn] at HTy HSy
        have HV : Hid (escTo L P k x (y + 1) = true) := by show _ = _; rw [HSy.out, hes.out]; rfl
        clear hn HSy HNy
        go_wp2_with fail
        refine HTy.out.mono ?_
        rintro e w5 ⟨rfl, rfl⟩
        go_wp2_with fail
        exact ⟨⟨y + 1, HYL.out, by go_num, HV.out, bx, hb⟩, by simp [intOf]; omega⟩
      | true =>
        have HFy := hide (HF.out x y HX.out hyl wo hb)
        rw [hn] at HTy HSy
        clear hn
        cases hp : P x y with
        | true =>
          rw [hp] at HFy HSy
          have HV : Hid (escTo L P k x (y + 1) = true) := by show _ = _; rw [HSy.out, hes.out]; rfl
          clear hp HSy HNy
          go_wp2_with fail
          refine HTy.out.mono ?_
          rintro e w5 ⟨rfl, rfl⟩
          go_wp2_with fail
          refine HFy.out.mono ?_
          rintro e w6 ⟨rfl, b6⟩
          go_wp2_with fail
          exact ⟨⟨y + 1, HYL.out, by go_num, HV.out, bx.then b6, below_then hb hb.size b6⟩, by simp [intOf]; omega⟩
        | false =>
          rw [hp] at HFy HSy
          have HV := hide (HNy.out (by rw [HSy.out, hes.out]; rfl))
          clear hp HSy HNy
          go_wp2_with fail
          refine HTy.out.mono ?_
          rintro e w5 ⟨rfl, rfl⟩
          go_wp2_with fail
          refine HFy.out.mono ?_
          rintro e w6 ⟨rfl, b6⟩
          go_wp2_with fail
          go_ret
          exact ⟨by rw [HV.out]; rfl, below_then hb hb.size b6⟩
    · obtain rfl : y = L.length := by omega
      go_wp2_with fail
      go_ret
      exact ⟨by rw [hes.out]; rfl, hb⟩
set_option maxHeartbeats 1000000 in
theorem hasTurn_c (A : Option Addr) (c : Nat) (L : List Nat) (P : Nat → Nat → Bool) (g3 i k : Nat) (W : World) (hr : Row W A (ints (natI (nearS L)))) (hL : Sets9 L) (hi : i < L.length) (hk : k < L.length)
    (hf : ∀ h o, h < L.length → o < L.length → ∀ w1, Below W.heap.size W w1 → Calls Try.prog 32 #[placeV h o, .pointer (some ⟨g3, 0, none⟩)] w1 (Plain (.bool (P h o)) w1)) :
    Calls Try.prog 37 #[.slice A L.length c, placeV i k, .func (.func 32) #[] #[.pointer (some ⟨g3, 0, none⟩)]] W (Plain (.bool (turnTo L P i k L.length)) W) := by
  have HT := hide (fun x (hx : x < L.length) (w5 : World) (h5 : Below W.heap.size W w5) => takes_c A c L i x w5 (hr.below h5) hL hi hx)
  have HE := hide (fun x (hx : x < L.length) (w5 : World) (h5 : Below W.heap.size W w5) => noEscape_c A c L P g3 x k w5 (hr.below h5) hL hx hk (fun h o h1 h2 w1 b1 => hf h o h1 h2 w1 (below_then h5 h5.size b1)))
  have HS : Hid (∀ x, turnTo L P i k (x + 1) = (turnTo L P i k x || (nearN L i x && (x == k || escTo L P k x L.length)))) := fun x => rfl
  have HN := hide (fun x (hx : x < L.length) (h : turnTo L P i k (x + 1) = true) => show turnTo L P i k L.length = true by
    have := turnTo_yes h (L.length - (x + 1))
    rwa [show x + 1 + (L.length - (x + 1)) = L.length by omega] at this)
  have h9 := hL.len
  clear hr hf hL hi hk
  go_enter Try.func37, Try.ntmps37
  go_wp2_with fail
  have bx := Box.new W 45 #[.int .i64 (i : Int), .int .i64 (k : Int)]
  have hb := (Below.refl W.heap.size W).alloc (Nat.le_refl _) (.cells #[.int .i64 (i : Int), .int .i64 (k : Int)] 45)
  go_loopw [11] (fun v wr => ∃ x : Nat, x ≤ L.length ∧ v = .int .i64 (x : Int) ∧ Hid (turnTo L P i k x = false) ∧ Box wr W.heap.size 45 #[.int .i64 (i : Int), .int .i64 (k : Int)] ∧ Below W.heap.size W wr) (fun v _ => L.length - (intOf v).toNat)
  case atStart => exact ⟨0, Nat.zero_le _, rfl, rfl, bx, hb⟩
  case round =>
    clear bx hb
    obtain ⟨x, hx, rfl, htu, bx, hb⟩ := hrel
    obtain ⟨wo, rfl⟩ : ∃ wo : World, wo = wr := ⟨_, rfl⟩
    have c0 := bx.cell 0
    have c1 := bx.cell 1
    by_cases hxl : x < L.length
    · have by_ := hb.alloc hb.size (.cells #[.int .i64 (x : Int), .int .i64 (k : Int)] 45)
      have bz := bx.alloc (.cells #[.int .i64 (x : Int), .int .i64 (k : Int)] 45)
      have bn := Box.new wo 45 #[.int .i64 (x : Int), .int .i64 (k : Int)]
      have HTx := hide (HT.out x hxl _ by_)
      have HEx := hide (fun w5 h5 => HE.out x hxl w5 h5)
      have HMx := hide (fun w5 => isMet_c x k w5)
      have HSx := hide (HS.out x)
      have HNx := hide (HN.out x hxl)
      have HXL := hide hxl
      have x1 : (x : Int) < (L.length : Int) := by omega
      have d0 := bz.cell 0
      have d1 := bz.cell 1
      have n0 := bn.cell 0
      have n1 := bn.cell 1
      cases hn : nearN L i x with
      | false =>
        rw [hn] at HTx HSx
        have HV : Hid (turnTo L P i k (x + 1) = false) := by show _ = _; rw [HSx.out, htu.out]; rfl
        clear hn HSx HNx
        go_wp2_with fail
        refine HTx.out.mono ?_
        rintro e w5 ⟨rfl, rfl⟩
        go_wp2_with fail
        exact ⟨⟨x + 1, HXL.out, by go_num, HV.out, bz, by_⟩, by simp [intOf]; omega⟩
      | true =>
        rw [hn] at HTx HSx
        clear hn
        cases hm : (x == k) with
        | true =>
          rw [hm] at HMx HSx
          have HV := hide (HNx.out (by rw [HSx.out, htu.out]; rfl))
          clear hm HSx HNx
          go_wp2_with fail
          refine HTx.out.mono ?_
          rintro e w5 ⟨rfl, rfl⟩
          go_wp2_with fail
          refine (HMx.out _).mono ?_
          rintro e w6 ⟨rfl, b6⟩
          go_wp2_with fail
          go_ret
          exact ⟨by rw [HV.out]; rfl, below_then by_ by_.size b6⟩
        | false =>
          rw [hm] at HMx HSx
          clear hm
          cases he : escTo L P k x L.length with
          | true =>
            rw [he] at HEx HSx
            have HV := hide (HNx.out (by rw [HSx.out, htu.out]; rfl))
            clear he HSx HNx
            go_wp2_with fail
            refine HTx.out.mono ?_
            rintro e w5 ⟨rfl, rfl⟩
            go_wp2_with fail
            refine (HMx.out _).mono ?_
            rintro e w6 ⟨rfl, b6⟩
            have m0 := (bn.then b6).cell 0
            have m1 := (bn.then b6).cell 1
            have b16 := below_then by_ by_.size b6
            go_wp2_with fail
            refine (HEx.out _ b16).mono ?_
            rintro e w7 ⟨rfl, b7⟩
            go_wp2_with fail
            go_ret
            exact ⟨by rw [HV.out]; rfl, below_then b16 b16.size b7⟩
          | false =>
            rw [he] at HEx HSx
            have HV : Hid (turnTo L P i k (x + 1) = false) := by show _ = _; rw [HSx.out, htu.out]; rfl
            clear he HSx HNx
            go_wp2_with fail
            refine HTx.out.mono ?_
            rintro e w5 ⟨rfl, rfl⟩
            go_wp2_with fail
            refine (HMx.out _).mono ?_
            rintro e w6 ⟨rfl, b6⟩
            have m0 := (bn.then b6).cell 0
            have m1 := (bn.then b6).cell 1
            have b16 := below_then by_ by_.size b6
            have z16 := bz.then b6
            go_wp2_with fail
            refine (HEx.out _ b16).mono ?_
            rintro e w7 ⟨rfl, b7⟩
            go_wp2_with fail
            exact ⟨⟨x + 1, HXL.out, by go_num, HV.out, z16.then b7, below_then b16 b16.size b7⟩, by simp [intOf]; omega⟩
    · obtain rfl : x = L.length := by omega
      go_wp2_with fail
      go_ret
      exact ⟨by rw [htu.out]; rfl, hb⟩
end Go.Proofs.Ytakphmcelhbaiac
