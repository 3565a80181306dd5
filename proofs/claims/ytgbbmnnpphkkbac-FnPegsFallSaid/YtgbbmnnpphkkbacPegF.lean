
/-
  Pegs: the model's ComesFrom, FewestLeft, CanCome.
-/
import Derived.Test.YtgbbmnnpphkkbacPegE
namespace Go.Proofs.Ytgbbmnnpphkkbac
open Go.RowKit
set_option linter.unusedVariables false

def comesV (bc br s : Int) : List Int := if PegS bc br s then ascP (natI (comeL bc.toNat (bc.toNat * br.toNat) s.toNat)) else []
theorem comesV_nat {w h x : Nat} (hw : 1 ≤ w ∧ w ≤ 5) (hh : 1 ≤ h ∧ h ≤ 5) (h12 : w * h ≤ 12) (hx : x < 2 ^ (w * h)) : comesV w h x = ascP (natI (comeL w (w * h) x)) := if_pos (pegS_of hw hh h12 hx)
theorem asc_len (l : List Int) : (ascP l).length = l.length := by rw [ascP_eq, List.length_mergeSort]
theorem comesV_len (bc br s : Int) : (comesV bc br s).length ≤ 4096 := by
  unfold comesV
  split
  · rename_i hP
    obtain ⟨w, h, x, rfl, rfl, rfl, hw, hh, h12, hx⟩ := pegS_nat hP
    simp only [Int.toNat_natCast]
    rw [asc_len, natI_len]
    exact Nat.le_trans (come_len hw.1 hx) (pow12 h12).2
  · simp
theorem cnt_pc : ∀ (k x : Nat), cntB x k = pcN k x
  | 0, x => rfl
  | k + 1, x => by rw [cnt_half, cnt_pc k (x / 2), pcN]
theorem pc_cnt {n x : Nat} (hn : n ≤ 12) (hx : x < 2 ^ n) : pcN 12 x = cntB x n := by
  have := cnt_more hx (12 - n)
  rw [← cnt_pc, show 12 = n + (12 - n) by omega]
  exact this
theorem cnt_le (x : Nat) : ∀ k, cntB x k ≤ k
  | 0 => Nat.le_refl _
  | k + 1 => by have := cnt_le x k; simp only [cntB]; have := Bool.toNat_le (x.testBit k); omega
theorem lst_most {n : Nat} {L : List Nat} {b : Nat} (k : Nat) : lstTo n L b k ≤ b := (lst_le k).1
def fewV (bc br s : Int) : Int := if PegS bc br s then ((fewL bc.toNat (bc.toNat * br.toNat) s.toNat : Nat) : Int) else -1
theorem fewV_nat {w h x : Nat} (hw : 1 ≤ w ∧ w ≤ 5) (hh : 1 ≤ h ∧ h ≤ 5) (h12 : w * h ≤ 12) (hx : x < 2 ^ (w * h)) : fewV w h x = ((fewL w (w * h) x : Nat) : Int) := if_pos (pegS_of hw hh h12 hx)
set_option maxHeartbeats 2000000 in
set_option maxRecDepth 100000 in
theorem specFewestLeft_c (bc br s : Int) (W : World) : Calls Try.prog 9 #[.int .i64 bc, .int .i64 br, .int .i64 s] W (Plain (.int .i64 (fewV bc br s)) W) := by
  have HV := hide (fun w5 => validPegs_c bc br s w5)
  by_cases hP : PegS bc br s
  · rw [decide_eq_true hP] at HV
    obtain ⟨w, h, x, rfl, rfl, rfl, hw, hh, h12, hx⟩ := pegS_nat hP
    rw [fewV_nat hw hh h12 hx]
    have HC := hide (fun w5 => comes_c w h x w5 hw hh h12 hx)
    have hl := Nat.le_trans (come_len hw.1 hx) (pow12 h12).2
    have HB := hide (fun w5 => show Calls Try.prog _ #[.int .i64 (x : Int)] w5 fun e w' => e = .returned (.int .i64 ((cntB x (w * h) : Nat) : Int)) ∧ w5 = w' by
      have := specBits12_c x (peg_lt h12 hx) w5
      rwa [pc_cnt h12 hx] at this)
    have HE := hide (fun (y : Nat) (hy : y ∈ comeL w (w * h) x) w5 => show Calls Try.prog _ #[.int .i64 (y : Int)] w5 fun e w' => e = .returned (.int .i64 ((cntB y (w * h) : Nat) : Int)) ∧ w5 = w' by
      have hy' := come_lt hw.1 hx hy
      have := specBits12_c y (peg_lt h12 hy') w5
      rwa [pc_cnt h12 hy'] at this)
    have HF := hide (show fewL w (w * h) x = lstTo (w * h) (comeL w (w * h) x) (cntB x (w * h)) (comeL w (w * h) x).length from rfl)
    rw [HF.out]
    have hc12 : cntB x (w * h) ≤ 12 := Nat.le_trans (cnt_le x _) h12
    have HC12 := hide (fun y => Nat.le_trans (cnt_le y (w * h)) h12)
    clear hP hw hh hx HF
    generalize comeL w (w * h) x = L at *
    generalize w * h = n at *
    generalize cntB x n = b at *
    go_enter Try.func9, Try.ntmps9
    go_wp2_with fail
    refine (HV.out _).mono ?_
    rintro e w1 ⟨rfl, rfl⟩
    go_wp2_with fail
    refine (HC.out _).mono ?_
    rintro e w2 ⟨v2, rfl, o2, b2⟩
    obtain ⟨A2, c2, rfl, _, _, r2, _⟩ := own_row o2
    have R2 := hide r2
    clear o2 r2
    go_wp2_with fail
    refine (HB.out _).mono ?_
    rintro e w3 ⟨rfl, rfl⟩
    go_wp2_with fail
    go_loopw [8, 9] (fun v i wr => ∃ k : Nat, k ≤ L.length ∧ i = .int .i64 (k : Int) ∧ v = .int .i64 ((lstTo n L b k : Nat) : Int) ∧ w2 = wr) (fun _ i _ => L.length - (intOf i).toNat)
    case atStart => exact ⟨0, Nat.zero_le _, rfl, rfl, rfl⟩
    case round =>
      obtain ⟨k, hk, rfl, rfl, rfl⟩ := hrel
      have hbk := lst_most (n := n) (L := L) (b := b) k
      by_cases hlt : k < L.length
      · obtain ⟨ad, rfl, hck⟩ := R2.out.int (k := k) (by rw [natI_len]; exact hlt)
        rw [natI_at] at hck
        have HEk := hide (fun w5 => HE.out (L[k]?.getD 0) (by rw [List.getElem?_eq_getElem hlt]; exact List.getElem_mem _) w5)
        have hS := hide (show lstTo n L b (k + 1) = min (lstTo n L b k) (cntB (L[k]?.getD 0) n) from rfl)
        have hc := HC12.out (L[k]?.getD 0)
        have k0 : (0 : Int) ≤ (k : Int) := by omega
        have k1 : (k : Int) < (L.length : Int) := by omega
        generalize L[k]?.getD 0 = y at *
        generalize cntB y n = c at *
        generalize lstTo n L b k = a at *
        rcases Nat.le_total a c with hac | hac
        · have hac' : (a : Int) ≤ (c : Int) := by omega
          have HS := hide (hS.out.trans (Nat.min_eq_left hac))
          clear hS
          go_wp2_with fail
          refine (HEk.out _).mono ?_
          rintro e w3 ⟨rfl, rfl⟩
          go_wp2_with fail
          all_goals exact ⟨⟨k + 1, hlt, by go_num, by rw [HS.out]; first | rfl | (congr 1; omega) | (exact congrArg (Value.int .i64) (by omega)), trivial⟩, by simp [intOf]; omega⟩
        · have hac' : (c : Int) ≤ (a : Int) := by omega
          have HS := hide (hS.out.trans (Nat.min_eq_right hac))
          clear hS
          go_wp2_with fail
          refine (HEk.out _).mono ?_
          rintro e w3 ⟨rfl, rfl⟩
          go_wp2_with fail
          all_goals exact ⟨⟨k + 1, hlt, by go_num, by rw [HS.out]; first | rfl | (congr 1; omega) | (exact congrArg (Value.int .i64) (by omega)), trivial⟩, by simp [intOf]; omega⟩
      · obtain rfl : k = L.length := by omega
        go_wp2_with fail
        go_ret
        exact ⟨rfl, b2⟩
  · have hc : fewV bc br s = -1 := by unfold fewV; rw [if_neg hP]
    rw [decide_eq_false hP] at HV
    rw [hc]
    clear hc hP
    go_enter Try.func9, Try.ntmps9
    go_wp2_with fail
    refine (HV.out _).mono ?_
    rintro e w1 ⟨rfl, rfl⟩
    go_wp2_with fail
    go_ret
    exact ⟨rfl, Below.refl _ _⟩

def canV (bc br a b : Int) : Bool := decide (PegS bc br a) && (decide (PegS bc br b) && (comeL bc.toNat (bc.toNat * br.toNat) a.toNat).contains b.toNat)
theorem canV_nat {w h a b : Nat} (hw : 1 ≤ w ∧ w ≤ 5) (hh : 1 ≤ h ∧ h ≤ 5) (h12 : w * h ≤ 12) (ha : a < 2 ^ (w * h)) (hb : b < 2 ^ (w * h)) : canV w h a b = (comeL w (w * h) a).contains b := by
  unfold canV
  rw [decide_eq_true (pegS_of hw hh h12 ha), decide_eq_true (pegS_of hw hh h12 hb), Bool.true_and, Bool.true_and]
  rfl
theorem natI_has (L : List Nat) (b : Nat) : (natI L).contains (b : Int) = L.contains b := by
  rw [Bool.eq_iff_iff, List.contains_iff_mem, List.contains_iff_mem]
  unfold natI
  rw [List.mem_map]
  constructor
  · rintro ⟨x, hx, e⟩
    have e : (x : Int) = (b : Int) := e
    have : x = b := by omega
    exact this ▸ hx
  · exact fun h => ⟨b, h, rfl⟩
set_option maxHeartbeats 1000000 in
theorem specCanCome_c (bc br a b : Int) (W : World) : Calls Try.prog 15 #[.int .i64 bc, .int .i64 br, .int .i64 a, .int .i64 b] W (Plain (.bool (canV bc br a b)) W) := by
  have HV := hide (fun w5 => validPegs_c bc br a w5)
  have HW := hide (fun w5 => validPegs_c bc br b w5)
  by_cases hP : PegS bc br a
  · by_cases hQ : PegS bc br b
    · rw [decide_eq_true hP] at HV
      rw [decide_eq_true hQ] at HW
      obtain ⟨w, h, x, rfl, rfl, rfl, hw, hh, h12, hx⟩ := pegS_nat hP
      obtain ⟨w', h', y, e1, e2, rfl, _, _, _, hy⟩ := pegS_nat hQ
      have e1 : w = w' := by omega
      have e2 : h = h' := by omega
      subst e1 e2
      rw [canV_nat hw hh h12 hx hy, ← natI_has]
      have HC := hide (fun w5 => comes_c w h x w5 hw hh h12 hx)
      have hl := Nat.le_trans (come_len hw.1 hx) (pow12 h12).2
      have HL := hide ((natI_len (comeL w (w * h) x)))
      generalize comeL w (w * h) x = L at *
      have HI := hide (fun (A : Option Addr) (c : Nat) (w5 : World) (h5 : Row w5 A (ints (natI L))) => show Calls Try.prog _ #[.slice A L.length c, .int .i64 (y : Int)] w5 _ from by
        have := hasInt_c A (natI L) c (y : Int) w5 h5 (by rw [HL.out]; unfold maxLen; omega)
        rw [HL.out] at this
        exact this)
      clear hP hQ hw hh h12 hx hy
      go_enter Try.func15, Try.ntmps15
      go_wp2_with fail
      refine (HV.out _).mono ?_
      rintro e w1 ⟨rfl, rfl⟩
      go_wp2_with fail
      refine (HW.out _).mono ?_
      rintro e w1 ⟨rfl, rfl⟩
      go_wp2_with fail
      refine (HC.out _).mono ?_
      rintro e w2 ⟨v2, rfl, o2, b2⟩
      obtain ⟨A2, c2, rfl, _, _, r2, _⟩ := own_row o2
      go_wp2_with fail
      refine (HI.out _ _ _ r2).mono ?_
      rintro e w3 ⟨rfl, b3⟩
      go_wp2_with fail
      go_ret
      exact ⟨show Ending.returned (.bool (decide ((y : Int) ∈ natI L))) = _ from ret_bool (by rw [List.contains_eq_mem]), below_then b2 b2.size b3⟩
    · have hc : canV bc br a b = false := by unfold canV; rw [decide_eq_false hQ]; simp
      rw [decide_eq_true hP] at HV
      rw [decide_eq_false hQ] at HW
      rw [hc]
      clear hc hP hQ
      go_enter Try.func15, Try.ntmps15
      go_wp2_with fail
      refine (HV.out _).mono ?_
      rintro e w1 ⟨rfl, rfl⟩
      go_wp2_with fail
      refine (HW.out _).mono ?_
      rintro e w1 ⟨rfl, rfl⟩
      go_wp2_with fail
      go_ret
      exact ⟨rfl, Below.refl _ _⟩
  · have hc : canV bc br a b = false := by unfold canV; rw [decide_eq_false hP]; simp
    rw [decide_eq_false hP] at HV
    rw [hc]
    clear hc hP HW
    go_enter Try.func15, Try.ntmps15
    go_wp2_with fail
    refine (HV.out _).mono ?_
    rintro e w1 ⟨rfl, rfl⟩
    go_wp2_with fail
    go_ret
    exact ⟨rfl, Below.refl _ _⟩
end Go.Proofs.Ytgbbmnnpphkkbac
