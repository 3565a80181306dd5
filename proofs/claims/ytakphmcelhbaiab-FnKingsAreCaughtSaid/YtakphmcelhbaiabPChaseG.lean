
/-
  The program's chases: firstFold, FoldOrder.
-/
import Derived.Test.YtakphmcelhbaiabPChaseF
import Derived.Test.YtakphmcelhbaiabChaseG
import Derived.Test.YtakphmcelhbaiabBitN
import Derived.BigQuiet
namespace Go.Proofs.Ytakphmcelhbaiab
open Go.RowKit
set_option linter.unusedVariables false
set_option maxRecDepth 100000

theorem fold_lt {L : List Nat} {l : Nat} : ∀ {n i}, firstTo L l n = some i → i < n ∧ fitTo L l i L.length = true
  | 0, i, h => by cases h
  | n + 1, i, h => by
    unfold firstTo at h
    cases hf : firstTo L l n with
    | some x =>
      rw [hf] at h
      injection h with h
      subst h
      obtain ⟨h1, h2⟩ := fold_lt hf
      exact ⟨by omega, h2⟩
    | none =>
      rw [hf] at h
      simp only at h
      split at h
      · rename_i h2
        injection h with h
        subst h
        exact ⟨by omega, h2⟩
      · cases h
theorem fit_left {L : List Nat} {l i : Nat} : ∀ {k}, fitTo L l i k = true → bitN l i = 1
  | 0, h => by cases h
  | k + 1, h => by
    rcases (Bool.or_eq_true _ _).mp (show (fitTo L l i k || fitF L l i k) = true from h) with h | h
    · exact fit_left h
    · unfold fitF at h
      simp only [Bool.and_eq_true] at h
      exact beq_iff_eq.1 h.1.1.2
theorem fold_bit {L : List Nat} {l n i : Nat} (h : firstTo L l n = some i) : i < n ∧ 2 ^ i ≤ l := ⟨(fold_lt h).1, bit_le (fit_left (fold_lt h).2)⟩
set_option maxHeartbeats 400000 in
theorem allOf9_c (n : Nat) (hn : n ≤ 9) (w : World) : Calls Try.prog 23 #[.int .i64 (n : Int)] w fun e w' => e = .returned (.int .i64 ((2 ^ n - 1 : Nat) : Int)) ∧ w = w' := by
  have es := shl9 n hn
  obtain ⟨p1, p2⟩ := pow9 hn
  generalize (2 ^ n : Nat) = P at *
  have e1 : IntKind.i64.wrap ((P : Int) - 1) = ((P - 1 : Nat) : Int) := (IntWalk.i64_in _ (by omega)).trans (by omega)
  have hn0 : (n : Int) ≤ 64 := by omega
  obtain ⟨q, hq⟩ : ∃ q, P - 1 = q := ⟨_, rfl⟩
  rw [hq] at e1 ⊢
  clear hq
  go_enter Try.func23, Try.ntmps23
  go_wp2_with fail
  go_ret
  exact ⟨rfl, rfl⟩
theorem two_pow_lt9 {i : Nat} (h : i < 9) : 2 ^ i < 512 := Nat.lt_of_le_of_lt (Nat.pow_le_pow_right (by omega) (by omega : i ≤ 8)) (by decide)
/-- Both cells are left. -/
theorem both_left {l i k : Nat} : ((l &&& (2 ^ i ||| 2 ^ k)) == (2 ^ i ||| 2 ^ k)) = (bitN l i == 1 && bitN l k == 1) := by
  rw [bit_test1, bit_test1, Bool.eq_iff_iff, beq_iff_eq, Bool.and_eq_true]
  constructor
  · intro h
    have key : ∀ j, (2 ^ i ||| 2 ^ k).testBit j = true → l.testBit j = true := fun j hj => by
      rw [← h, Nat.testBit_and, Bool.and_eq_true] at hj
      exact hj.1
    exact ⟨key i (by simp [Nat.testBit_or, Nat.testBit_two_pow]), key k (by simp [Nat.testBit_or, Nat.testBit_two_pow])⟩
  · rintro ⟨h1, h2⟩
    refine Nat.eq_of_testBit_eq fun j => ?_
    rw [Nat.testBit_and]
    cases hj : (2 ^ i ||| 2 ^ k).testBit j with
    | false => rw [Bool.and_false]
    | true =>
      rw [Nat.testBit_or, Nat.testBit_two_pow, Nat.testBit_two_pow, Bool.or_eq_true, decide_eq_true_eq, decide_eq_true_eq] at hj
      rcases hj with rfl | rfl
      · rw [h1]; rfl
      · rw [h2]; rfl
theorem fit_is {L : List Nat} {l i k : Nat} (hi : i < L.length) (hk : k < L.length) : fitF L l i k = (i != k && ((l &&& (2 ^ i ||| 2 ^ k)) == (2 ^ i ||| 2 ^ k)) && ((((nearS L)[i]?.getD 0 &&& l) - (((nearS L)[i]?.getD 0 &&& l) &&& (nearS L)[k]?.getD 0)) == 0)) := by
  unfold fitF
  rw [both_left, nearS_at hi, nearS_at hk, Bool.and_assoc (i != k)]
  congr 1
  have hle : ((L[i]?.getD 0 ||| 2 ^ i) &&& l) &&& (L[k]?.getD 0 ||| 2 ^ k) ≤ ((L[i]?.getD 0 ||| 2 ^ i) &&& l) := Nat.and_le_left
  rw [Bool.eq_iff_iff, beq_iff_eq, beq_iff_eq]
  omega
/-- What firstFold answers. -/
def foldV1 : Option Nat → Value
  | some i => .tuple #[.int .i64 (i : Int), .bool true]
  | none => .tuple #[.int .i64 0, .bool false]
set_option maxHeartbeats 4000000 in
theorem firstFold_c (A : Option Addr) (c l : Nat) (L : List Nat) (W : World) (hL : Sets9 L) (hl : l < 512) (hr : Row W A (ints (natI (nearS L)))) :
    Calls Try.prog 24 #[.slice A L.length c, .int .i64 (l : Int)] W (Plain (foldV1 (firstTo L l L.length)) W) := by
  have h9 := hL.len
  have HR := hide hr
  have HBD := hide (fun i (hi : i < L.length) => nearS_bd hL hi)
  have HFI := hide (fun i k (hi : i < L.length) (hk : k < L.length) => fit_is (l := l) hi hk)
  have HFS : Hid (∀ i k, fitTo L l i (k + 1) = (fitTo L l i k || fitF L l i k)) := fun i k => rfl
  have HHERE := hide (fun i k (hi : i < L.length) (hk : k < L.length) (h0 : firstTo L l i = none) (h : fitTo L l i (k + 1) = true) => first_here rfl hi h0 (fit_all h (by omega)))
  have HNOT := hide (fun i (h0 : firstTo L l i = none) (h : fitTo L l i L.length = false) => first_not rfl h0 h)
  have hlen := nearS_len L
  have HLI := hide (natI_len (nearS L))
  clear hL hr
  go_enter Try.func24, Try.ntmps24
  go_wp2_with fail
  go_loopw [11] (fun v wr => ∃ i : Nat, i ≤ L.length ∧ v = .int .i64 (i : Int) ∧ Hid (firstTo L l i = none) ∧ Below W.heap.size W wr) (fun v _ => L.length - (intOf v).toNat)
  case atStart => exact ⟨0, Nat.zero_le _, rfl, rfl, Below.refl _ _⟩
  case round =>
    obtain ⟨i, hi, rfl, hfi, hb⟩ := hrel
    obtain ⟨wo, rfl⟩ : ∃ wo : World, wo = wr := ⟨_, rfl⟩
    by_cases hlt : i < L.length
    · have i1 : (i : Int) < (L.length : Int) := by omega
      have HLT := hide hlt
      go_wp2_with fail
      go_loopw [16] (fun v wr => ∃ k : Nat, k ≤ L.length ∧ v = .int .i64 (k : Int) ∧ Hid (fitTo L l i k = false) ∧ Below W.heap.size W wr) (fun v _ => L.length - (intOf v).toNat)
      case atStart => exact ⟨0, Nat.zero_le _, rfl, rfl, hb⟩
      case round =>
        clear hb
        obtain ⟨k, hk, rfl, hfk, hb⟩ := hrel
        obtain ⟨wi, rfl⟩ : ∃ wi : World, wi = wr := ⟨_, rfl⟩
        by_cases hkl : k < L.length
        · have k1 : (k : Int) < (L.length : Int) := by omega
          have HKL := hide hkl
          have hrw := HR.out.below hb
          obtain ⟨ad, rfl, hci⟩ := hrw.int (k := i) (by rw [HLI.out, hlen]; exact hlt)
          obtain ⟨_, ⟨rfl⟩, hck⟩ := hrw.int (k := k) (by rw [HLI.out, hlen]; exact hkl)
          rw [natI_at] at hci hck
          have bi := HBD.out i hlt
          have bk := HBD.out k hkl
          have hfit := HFI.out i k hlt hkl
          have hfs := HFS.out i k
          rw [hfk.out, Bool.false_or, hfit] at hfs
          have hhere := hide (HHERE.out i k hlt hkl hfi.out)
          have esi := shl9 i (by omega)
          have esk := shl9 k (by omega)
          have p9i := two_pow_lt9 (i := i) (by omega)
          have p9k := two_pow_lt9 (i := k) (by omega)
          obtain ⟨eo, bo⟩ := i64_or9 _ _ p9i p9k
          obtain ⟨ea, ba⟩ := i64_and9 l _ hl bo
          generalize (nearS L)[i]?.getD 0 = mi at *
          generalize (nearS L)[k]?.getD 0 = mk at *
          obtain ⟨en, bn⟩ := i64_and9 mi l bi hl
          have enn := i64_andNotC (mi &&& l) mk bn bk
          generalize mi &&& l = x at *
          generalize x - (x &&& mk) = y at *
          generalize l &&& (2 ^ i ||| 2 ^ k) = d at *
          generalize 2 ^ i ||| 2 ^ k = q at *
          generalize (2 ^ i : Nat) = pi at *
          generalize (2 ^ k : Nat) = pk at *
          have i0 : (0 : Int) ≤ (i : Int) := by omega
          have k0 : (0 : Int) ≤ (k : Int) := by omega
          have i9 : (i : Int) ≤ 64 := by omega
          have k9 : (k : Int) ≤ 64 := by omega
          clear hfit bi bk p9i p9k bo ba bn hrw hlen
          by_cases hik : i = k
          · have tik : ((i : Int) != (k : Int)) = false := by rw [bne_eq_false_iff_eq]; omega
            have HV : Hid (fitTo L l i (k + 1) = false) := by show _ = _; rw [hfs, hik]; simp
            clear hfs hhere
            go_wp2_with fail
            go_quiet (fail)
            all_goals go_wp2_with fail
            go_quiet (fail)
            all_goals go_wp2_with fail
            exact ⟨⟨k + 1, HKL.out, by go_num, HV.out, below_drewN hb _⟩, by simp [intOf]; omega⟩
          · have tik : ((i : Int) != (k : Int)) = true := by rw [bne_iff_ne]; omega
            have nik : (i != k) = true := bne_iff_ne.2 hik
            rw [nik, Bool.true_and] at hfs
            by_cases hdq : d = q
            · subst hdq
              have tdq : ((d : Int) == (d : Int)) = true := by simp
              have ndq : (d == d) = true := by simp
              rw [ndq, Bool.true_and] at hfs
              by_cases hy : y = 0
              · subst hy
                have HF := hide (hhere.out (by rw [hfs]; rfl))
                have HV := hide (show foldV1 (firstTo L l L.length) = .tuple #[.int .i64 (i : Int), .bool true] by rw [HF.out]; rfl)
                clear hfs hhere ndq nik hik HF
                go_wp2_with fail
                go_quiet (fail)
                all_goals go_wp2_with fail
                go_quiet (fail)
                all_goals go_wp2_with fail
                go_ret2
                exact ⟨by rw [HV.out]; rfl, below_drewN (below_drewN hb _) _⟩
              · have ty : ((y : Int) == 0) = false := by rw [beq_eq_false_iff_ne]; omega
                have ny : (y == 0) = false := beq_eq_false_iff_ne.2 hy
                rw [ny] at hfs
                have HV := hide hfs
                clear hfs hhere ndq nik hik ny hy
                go_wp2_with fail
                go_quiet (fail)
                all_goals go_wp2_with fail
                go_quiet (fail)
                all_goals go_wp2_with fail
                exact ⟨⟨k + 1, HKL.out, by go_num, HV.out, below_drewN hb _⟩, by simp [intOf]; omega⟩
            · have tdq : ((d : Int) == (q : Int)) = false := by rw [beq_eq_false_iff_ne]; omega
              have ndq : (d == q) = false := beq_eq_false_iff_ne.2 hdq
              rw [ndq, Bool.false_and] at hfs
              have HV := hide hfs
              clear hfs hhere ndq nik hik hdq
              go_wp2_with fail
              go_quiet (fail)
              all_goals go_wp2_with fail
              go_quiet (fail)
              all_goals go_wp2_with fail
              exact ⟨⟨k + 1, HKL.out, by go_num, HV.out, below_drewN hb _⟩, by simp [intOf]; omega⟩
        · obtain rfl : k = L.length := by omega
          have HN := hide (HNOT.out i hfi.out hfk.out)
          go_wp2_with fail
          exact ⟨⟨i + 1, HLT.out, by go_num, HN.out, hb⟩, by simp [intOf]; omega⟩
    · obtain rfl : i = L.length := by omega
      have HV := hide (show foldV1 (firstTo L l L.length) = .tuple #[.int .i64 0, .bool false] by rw [hfi.out]; rfl)
      go_wp2_with fail
      go_ret2
      exact ⟨by rw [HV.out]; rfl, hb⟩
theorem and_bit {l i : Nat} (h : bitN l i = 1) : l &&& 2 ^ i = 2 ^ i := by
  have hb : l.testBit i = true := by rw [← bit_test1, h]; rfl
  refine Nat.eq_of_testBit_eq fun j => ?_
  rw [Nat.testBit_and, Nat.testBit_two_pow]
  by_cases e : i = j
  · subst e
    rw [hb]
    rfl
  · rw [decide_eq_false e, Bool.and_false]
/-- One fold. -/
theorem fold_step {L F : List Nat} {n f l : Nat} {rest out : List Nat} (hn : L.length = n) (hff : foldFrom L f l = some rest) (ho : out ++ rest = F) (hl : out.length + f = n + 1) :
    (firstTo L l n = none → out = F) ∧ (∀ i, firstTo L l n = some i → ∃ f' rest', f = f' + 1 ∧ foldFrom L f' (l - 2 ^ i) = some rest' ∧ (out ++ [i]) ++ rest' = F ∧ (out ++ [i]).length + f' = n + 1) := by
  cases f with
  | zero => cases hff
  | succ f =>
    constructor
    · intro h
      unfold foldFrom at hff
      rw [hn, h] at hff
      injection hff with hff
      rw [← ho, ← hff, List.append_nil]
    · intro i h
      unfold foldFrom at hff
      rw [hn, h] at hff
      simp only [Option.map_eq_some_iff] at hff
      obtain ⟨r2, h1, h2⟩ := hff
      exact ⟨f, r2, rfl, h1, by rw [← ho, ← h2]; simp, by simp; omega⟩
def cellI : Option Nat → Int
  | some i => (i : Int)
  | none => 0
theorem foldV1_is (o : Option Nat) : foldV1 o = .tuple #[.int .i64 (cellI o), .bool o.isSome] := by cases o <;> rfl
set_option maxHeartbeats 4000000 in
theorem implFoldOrder_c (bc br : Int) (s : ByteArray) (W : World) : Calls Try.prog 8 #[.int .i64 bc, .int .i64 br, .string s] W (Owns 3 1 (foldV bc br s.toList).length (ints (natI (foldV bc br s.toList))) W) := by
  unfold foldV
  cases hk : smallK bc br s.toList with
  | none =>
    have H := hide (chaseOf_no bc br s W hk)
    clear hk
    go_enter Try.func8, Try.ntmps8
    go_wp2_with fail
    refine H.out.mono ?_
    rintro e w1 ⟨rfl, b1⟩
    go_wp2_with fail
    go_ret
    exact ⟨_, rfl, World.ownsRow_nil _ _ _ _, b1⟩
  | some p =>
    obtain ⟨ss, far⟩ := p
    obtain ⟨hS, hkk⟩ := smallK_some hk
    have H := hide (chaseOf_yes bc br s W hkk hS)
    obtain ⟨n, hC⟩ := chase_of hS hkk
    have h9s := hC.sets
    have hlen := hC.len
    have hn9 := hC.nine
    have hn1 := hC.one
    have hff := fold_from hlen hC.tab
    simp only
    clear hk hS hkk hC
    generalize setsP bc br far ss = L at *
    generalize foldN L = F at *
    subst hlen
    have HAL := hide (fun w5 => allOf9_c L.length hn9 w5)
    have HFF := hide (fun (A : Option Addr) (c l : Nat) (w5 : World) (hl : l < 512) (hr : Row w5 A (ints (natI (nearS L)))) => by
      have := firstFold_c A c l L w5 h9s hl hr
      rwa [foldV1_is] at this)
    have HST := hide (fun (f l : Nat) (rest out : List Nat) (h1 : foldFrom L f l = some rest) (h2 : out ++ rest = F) (h3 : out.length + f = L.length + 1) => fold_step rfl h1 h2 h3)
    have HBI := hide (fun (l i : Nat) (h : firstTo L l L.length = some i) => show i < L.length ∧ 2 ^ i ≤ l ∧ l &&& 2 ^ i = 2 ^ i from ⟨(fold_bit h).1, (fold_bit h).2, and_bit (fit_left (fold_lt h).2)⟩)
    obtain ⟨p1, p2⟩ := pow9 hn9
    clear h9s
    have HL0 := hide hff
    have hl0 : 2 ^ L.length - 1 < 512 := by omega
    generalize 2 ^ L.length - 1 = l0 at *
    go_enter Try.func8, Try.ntmps8
    go_wp2_with fail
    refine H.out.mono ?_
    rintro e w1 ⟨A1, c1, rfl, o1, b1⟩
    clear hff
    obtain ⟨g1, _, ea, _, _, _, _, hg1⟩ := own_one o1 (by omega)
    injection ea with ea _ _
    subst ea
    have R1 := hide (own_reads o1)
    clear o1
    go_wp2_with fail
    refine (HAL.out _).mono ?_
    rintro e w2 ⟨rfl, rfl⟩
    go_wp2_with fail
    refine (HFF.out _ _ l0 _ hl0 R1.out).mono ?_
    rintro e w3 ⟨rfl, b3⟩
    have b13 := below_then b1 b1.size b3
    have R3 := hide (R1.out.below b3)
    have hg13 : g1 < w3.heap.size := Nat.lt_of_lt_of_le hg1 b3.size
    have hz3 := b13.size
    clear b1 b3 R1 hg1
    go_wp2_with fail
    go_loopw [9, 10, 11, 12] (fun v lv cv fv wr => ∃ (l f : Nat) (out rest : List Nat), l < 512 ∧ lv = .int .i64 (l : Int) ∧ cv = .int .i64 (cellI (firstTo L l L.length)) ∧ fv = .bool (firstTo L l L.length).isSome ∧ Hid (foldFrom L f l = some rest ∧ out ++ rest = F ∧ out.length + f = L.length + 1) ∧
      wr.ownsRow w3.heap.size 3 1 v out.length (ints (natI out)) ∧ Row wr (some ⟨g1, 0, none⟩) (ints (natI (nearS L))) ∧ Below W.heap.size W wr ∧ w3.heap.size ≤ wr.heap.size) (fun _ lv _ _ _ => (intOf lv).toNat)
    case atStart => exact ⟨l0, L.length + 1, [], F, hl0, rfl, rfl, rfl, ⟨HL0.out, rfl, by simp⟩, World.ownsRow_nil _ _ _ _, R3.out, b13, Nat.le_refl _⟩
    case round =>
      clear b13 R3 HL0 hl0
      obtain ⟨l, f, out, rest, hl, rfl, rfl, rfl, hst, hown, hrow, hb, hz⟩ := hrel
      obtain ⟨wo, rfl⟩ : ∃ wo : World, wo = wr := ⟨_, rfl⟩
      obtain ⟨A0, c0, rfl, _⟩ := own_row hown
      obtain ⟨s1, s2⟩ := HST.out f l rest out hst.out.1 hst.out.2.1 hst.out.2.2
      have hol : out.length ≤ 10 := by have := hst.out.2.2; omega
      clear hst
      cases hft : firstTo L l L.length with
      | none =>
        have he := s1 hft
        subst he
        clear s2 hft
        go_wp2_with fail
        go_ret
        exact ⟨_, rfl, own_mono hown hz3, hb⟩
      | some i =>
        obtain ⟨f', rest', _, g1, g2, g3⟩ := s2 i hft
        obtain ⟨hi, hle, hand⟩ := HBI.out l i hft
        have HG : Hid (foldFrom L f' (l - 2 ^ i) = some rest' ∧ (out ++ [i]) ++ rest' = F ∧ (out ++ [i]).length + f' = L.length + 1) := ⟨g1, g2, g3⟩
        have es := shl9 i (by omega)
        have enn := i64_andNotC l (2 ^ i) hl (two_pow_lt9 (i := i) (by omega))
        rw [hand] at enn
        have hpos : 1 ≤ 2 ^ i := Nat.one_le_two_pow
        have hsub : l - 2 ^ i < l := by omega
        obtain ⟨l2, hl2⟩ : ∃ l2, l - 2 ^ i = l2 := ⟨_, rfl⟩
        rw [hl2] at enn HG hsub
        have i0 : (0 : Int) ≤ (i : Int) := by omega
        have i9 : (i : Int) ≤ 64 := by omega
        have hci : cellI (some i) = (i : Int) := rfl
        have hsi : (some i).isSome = true := rfl
        rw [hci, hsi]
        generalize (2 ^ i : Nat) = P at *
        have hvc := hown.alloc (.cells #[.int .i64 (i : Int)] 3)
        have hbc := hb.alloc hb.size (.cells #[.int .i64 (i : Int)] 3)
        have hrc := hrow.alloc (.cells #[.int .i64 (i : Int)] 3)
        have hzc : w3.heap.size ≤ (wo.alloc (.cells #[.int .i64 (i : Int)] 3)).heap.size := by simp; omega
        clear s1 s2 g1 g2 g3 hft hle hand hl2 hci hsi hown hb hrow
        go_wp2_with ((at_builtin; go_loud (refine put_own rfl (.tmp 38) (.tmp 40) rfl Try.underlying22 elem_int rfl hvc rfl (m := 1) (news := [.int .i64 (i : Int)]) rfl (row_new _ _ _ (by first | rfl | simp)) (by simp [Value.oneCell']) (by omega) (by omega) hzc ?_; intro v9 w9 own9 hg9 ho9; have hz9 := Nat.le_trans hzc hg9.size; have hr9 := hrc.grown hg9 (fun ad e h => by injection e with e; subst e; have := (hvc.lt g1 h).1; omega); have hb9 := below_grown hbc hbc.size hvc hz3 hg9; clear hg9 ho9)))
        refine (HFF.out _ _ l2 _ (by omega) hr9).mono ?_
        rintro e w5 ⟨rfl, b5⟩
        go_wp2_with fail
        exact ⟨⟨l2, f', out ++ [i], rest', by omega, rfl, rfl, rfl, HG.out, by rw [List.length_append]; exact own_below (by simpa [natI, ints] using own9) b5, hr9.below b5, below_then hb9 hb9.size b5, Nat.le_trans hz9 b5.size⟩, by simp [intOf]; omega⟩
end Go.Proofs.Ytakphmcelhbaiab
