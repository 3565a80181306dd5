
/-
  The walk of the law FnKindsOfQueens.
-/
import Derived.Test.YtlccohoblplddadPKinds
import Derived.Test.YtlccohoblplddadPQueenB
import Derived.Test.YtlccohoblplddadDrawQ
import Derived.Test.YtlccohoblplddadCodeWords
import Derived.Test.YtlccohoblplddadLawWQ
import Derived.Deep.RegionHeld3
namespace Go.Proofs.Ytlccohoblplddad
open Go.RowKit
set_option linter.unusedVariables false

theorem kinds_facts : ∀ n : Fin 7, 1 ≤ n.val → (0 ≤ kindsP n.val ∧ kindsP n.val ≤ 1000) ∧ (0 ≤ countP n.val ∧ countP n.val ≤ 1000) ∧ countP n.val ≤ 8 * kindsP n.val := by decide +kernel
theorem rowset_reads {D : Nat} {W : World} {vs : List Value} {L : List (List Int)} (h : Rows1 D W vs L) {i : Nat} (hi : i < L.length) : ∃ A c, vs[i]?.getD undef = .slice A (L[i]?.getD []).length c ∧ W.ownsRow D 3 1 (.slice A (L[i]?.getD []).length c) (L[i]?.getD []).length (ints (L[i]?.getD [])) := by
  obtain ⟨A, c, e, ho⟩ := h.2 i hi
  rw [List.getElem?_eq_getElem hi]
  exact ⟨A, c, by rw [e]; rfl, ho⟩

set_option maxHeartbeats 1000000 in
set_option maxRecDepth 100000 in
theorem kindsOf_w (A : Option Addr) (n c : Nat) (w : World) (h : Code w A n c) : Calls Try.prog 5 #[.slice A n c] w (Plain (.bool true) w) := by
  by_cases hl : 1048576 < (n : Int)
  · go_enter Try.func5, Try.ntmps5
    go_wp2
    go_ret
    exact ⟨rfl, Below.refl _ _⟩
  · have HC := hide (drawKinds_c A n c w h)
    clear h
    go_enter Try.func5, Try.ntmps5
    go_wp2_with fail
    refine HC.out.mono ?_
    rintro e w1 ⟨k, rfl, ⟨k0, k7⟩, b1⟩
    have HS := hide (fun w5 => specKinds_c k w5)
    have HI := hide (fun w5 => implKinds_c k w5)
    by_cases hk : 1 ≤ k ∧ k ≤ 6
    · obtain ⟨m, rfl⟩ := Int.eq_ofNat_of_zero_le k0
      have hm1 : 1 ≤ m := by omega
      have hm6 : m ≤ 6 := by omega
      obtain ⟨⟨f1, f2⟩, ⟨f3, f4⟩, f5⟩ := kinds_facts ⟨m, by omega⟩ hm1
      have HKP : Hid (kindsP (m : Int) = (kindsTo (queensP m m []) (queensP m m []).length : Int)) := by show _ = _; unfold kindsP; rw [if_pos hk]; rfl
      have HQ := hide (fun w5 => show Calls Try.prog _ #[.int .i64 (m : Int)] w5 (Rowset w5.heap.size (queensP m m []) w5) by
        have := implQueensOf_c (m : Int) w5
        unfold queensOfP at this
        rw [if_pos hk] at this
        exact this)
      have HCQ := hide (fun w5 => implCountQueens_c (m : Int) w5)
      have HOK := hide (fun (x : List Int) (hx : x ∈ queensP m m []) => show ImgOk x by
        have := queens_ok ⟨m, by omega⟩ hm1
        rw [List.all_eq_true] at this
        exact of_decide_eq_true (this x hx))
      have HSAME := hide (fun (x : List Int) (hx : x ∈ queensP m m []) => show lessP (firstP x) x = !(decide (x = firstP x)) by
        have := less_same ⟨m, by omega⟩ hm1
        rw [List.all_eq_true] at this
        exact beq_iff_eq.1 (this x hx))
      have HN : (queensP m m []).length ≤ 46656 := Nat.le_trans (queens_len m m []) (Nat.le_trans (Nat.pow_le_pow_left hm6 m) (Nat.pow_le_pow_right (n := 6) (by omega) hm6))
      simp only at f1 f2 f3 f4 f5
      clear hk k0 k7
      generalize queensP m m [] = L at *
      generalize kindsP (m : Int) = v at *
      generalize countP (m : Int) = cn at *
      have hvv : (v != v) = false := by simp
      go_wp2_with fail
      refine (HI.out _).mono ?_
      rintro e w2 ⟨rfl, b2⟩
      have bw2 := below_then b1 b1.size b2
      clear b2
      go_wp2_with fail
      refine (HS.out _).mono ?_
      rintro e w3 ⟨rfl, b3⟩
      have bw3 := below_then bw2 bw2.size b3
      clear b3
      go_wp2_with fail
      refine (HQ.out _).mono ?_
      rintro e w4 ⟨v4, vs, rfl, own4, rs4, _, b4⟩
      have hvl : vs.length = L.length := rs4.1
      rw [hvl] at own4
      obtain ⟨A4, c4, rfl, _⟩ := own_row own4
      have RV := hide (fun (i : Nat) (hi : i < L.length) (w5 : World) (b5 : Below w4.heap.size w4 w5) => ((own_reads own4).below b5).at_ (k := i) (by rw [hvl]; exact hi))
      have RR := hide (fun (i : Nat) (hi : i < L.length) => rowset_reads rs4 hi)
      have bw4 := below_then bw3 bw3.size b4
      clear own4 rs4 b4 hvl
      go_wp2_with fail
      go_loopw [6, 7] (fun s i wr => ∃ q : Nat, q ≤ L.length ∧ i = .int .i64 (q : Int) ∧ s = .int .i64 (kindsTo L q : Int) ∧ Below w4.heap.size w4 wr) (fun _ i _ => L.length - (intOf i).toNat)
      case atStart => exact ⟨0, Nat.zero_le _, rfl, rfl, Below.refl _ _⟩
      case round =>
        obtain ⟨q, hq, rfl, rfl, hb⟩ := hrel
        obtain ⟨wo, rfl⟩ : ∃ wo : World, wo = wr := ⟨_, rfl⟩
        have hle := kindsTo_le L q
        by_cases hlt : q < L.length
        · obtain ⟨Aq, cq, eq, ownq⟩ := RR.out q hlt
          obtain ⟨ad, hca⟩ : ∃ ad, A4 = some ad ∧ wo.cell? (ad.add q) = some (vs[q]?.getD undef) := RV.out q hlt wo hb
          obtain ⟨rfl, hca⟩ := hca
          rw [eq] at hca
          have hxm : L[q]?.getD [] ∈ L := by rw [List.getElem?_eq_getElem hlt]; exact List.getElem_mem hlt
          have hok := HOK.out _ hxm
          have HK : Hid (kindsTo L (q + 1) = if decide (firstP (L[q]?.getD []) = L[q]?.getD []) = true then kindsTo L q + 1 else kindsTo L q) := by
            show _ = _
            rw [kindsTo, HSAME.out _ hxm]
            by_cases e : L[q]?.getD [] = firstP (L[q]?.getD [])
            · rw [if_neg (by rw [decide_eq_true e]; simp), if_pos (decide_eq_true e.symm)]
            · rw [if_pos (by rw [decide_eq_false e]; rfl), if_neg (by rw [decide_eq_false (fun h => e h.symm)]; simp)]
          have hfl := firstP_len hok
          have hx6 := hok.1.2
          have HRQ := hide (fun (w5 : World) (b5 : Below w4.heap.size w4 w5) => (own_reads ownq).below b5)
          have HRC := hide (fun (w5 : World) (b5 : Below wo.heap.size wo w5) => show w5.cell? (ad.add q) = some (.slice Aq (L[q]?.getD []).length cq) from (b5.cell (World.block_lt_of_cell? _ _ hca)).trans hca)
          clear hok eq ownq hxm
          generalize L[q]?.getD [] = x at *
          have HF := hide (fun (w5 : World) (h5 : Row w5 Aq (ints x)) => implFirstImage_c Aq cq x w5 h5 (by omega))
          have HE := hide (fun (A' : Option Addr) (c' : Nat) (w5 : World) (h5 : Row w5 A' (ints (firstP x))) (h6 : Row w5 Aq (ints x)) => show Calls Try.prog 12 #[.slice A' x.length c', .slice Aq x.length cq] w5 (Plain (.bool (decide (firstP x = x))) w5) by
            have := equalInts_c A' Aq (firstP x) x c' cq w5 h5 h6 (by rw [hfl]; simp [maxLen]; omega) (by simp [maxLen]; omega)
            rwa [hfl] at this)
          rw [hfl] at HF
          obtain ⟨b, hbv⟩ : ∃ b, decide (firstP x = x) = b := ⟨_, rfl⟩
          rw [hbv] at HK HE
          clear hbv hfl
          generalize firstP x = F at *
          have q0 : (0 : Int) ≤ (q : Int) := by omega
          have q1 : (q : Int) < (L.length : Int) := by omega
          have hbd := hb.drew
          have hcd : wo.drew.cell? (ad.add q) = some (.slice Aq x.length cq) := hca
          cases b with
          | true =>
            have HKK : Hid (kindsTo L (q + 1) = kindsTo L q + 1) := by show _ = _; rw [HK.out, if_pos rfl]
            clear HK
            generalize kindsTo L q = t at *
            go_wp2_with fail
            go_region_held3 (fun w' => w'.cell? (ad.add q) = some (.slice Aq x.length cq)) (go_keep)
              (first
                | (go_at_call 22; refine (HF.out _ (HRQ.out _ hbd)).mono ?_; rintro e w7 ⟨v7, rfl, o7, b7⟩
                   obtain ⟨A7, c7, rfl, _⟩ := own_row o7
                   have r7 := own_reads o7
                   have hk7 := (b7.cell (World.block_lt_of_cell? _ _ hcd)).trans hcd
                   have b47 := below_then hbd hbd.size b7)
                | (go_at_call 12; refine (HE.out A7 c7 _ r7 (HRQ.out _ b47)).mono ?_; rintro e w8 ⟨rfl, b8⟩
                   have hk8 := (b8.cell (World.block_lt_of_cell? _ _ hk7)).trans hk7
                   have b48 := below_then b47 b47.size b8))
            go_wp2_with fail
            exact ⟨⟨q + 1, hlt, by go_num, by rw [HKK.out]; go_num, b48⟩, by simp [intOf]; omega⟩
          | false =>
            have HKK : Hid (kindsTo L (q + 1) = kindsTo L q) := by show _ = _; rw [HK.out, if_neg (by simp)]
            clear HK
            generalize kindsTo L q = t at *
            go_wp2_with fail
            go_region_held3 (fun w' => w'.cell? (ad.add q) = some (.slice Aq x.length cq)) (go_keep)
              (first
                | (go_at_call 22; refine (HF.out _ (HRQ.out _ hbd)).mono ?_; rintro e w7 ⟨v7, rfl, o7, b7⟩
                   obtain ⟨A7, c7, rfl, _⟩ := own_row o7
                   have r7 := own_reads o7
                   have hk7 := (b7.cell (World.block_lt_of_cell? _ _ hcd)).trans hcd
                   have b47 := below_then hbd hbd.size b7)
                | (go_at_call 12; refine (HE.out A7 c7 _ r7 (HRQ.out _ b47)).mono ?_; rintro e w8 ⟨rfl, b8⟩
                   have hk8 := (b8.cell (World.block_lt_of_cell? _ _ hk7)).trans hk7
                   have b48 := below_then b47 b47.size b8))
            go_wp2_with fail
            exact ⟨⟨q + 1, hlt, by go_num, by rw [HKK.out], b48⟩, by simp [intOf]; omega⟩
        · obtain rfl : q = L.length := by omega
          have hkv : ((kindsTo L L.length : Int) == v) = true := by rw [beq_iff_eq]; exact HKP.out.symm
          have B := hide (below_then bw4 bw4.size hb)
          have e8 : IntKind.i64.wrap (8 * v) = 8 * v := IntWalk.i64_in _ (by omega)
          have hge : cn ≤ 8 * v := f5
          generalize (kindsTo L L.length : Int) = t at *
          go_wp2_with fail
          refine (HCQ.out _).mono ?_
          rintro e w5 ⟨rfl, rfl⟩
          go_wp2_with fail
          go_ret
          exact ⟨rfl, B.out⟩
    · have HV : Hid (kindsP k = -1) := by show _ = _; unfold kindsP; rw [if_neg hk]
      rw [HV.out] at HS HI
      clear hk
      go_wp2_with fail
      refine (HI.out _).mono ?_
      rintro e w2 ⟨rfl, b2⟩
      have bw2 := below_then b1 b1.size b2
      clear b2
      go_wp2_with fail
      refine (HS.out _).mono ?_
      rintro e w3 ⟨rfl, b3⟩
      have bw3 := below_then bw2 bw2.size b3
      clear b3
      go_wp2_with fail
      refine (HS.out _).mono ?_
      rintro e w4 ⟨rfl, b4⟩
      have bw4 := below_then bw3 bw3.size b4
      clear b4
      go_wp2_with fail
      go_ret
      exact ⟨rfl, bw4⟩
end Go.Proofs.Ytlccohoblplddad
