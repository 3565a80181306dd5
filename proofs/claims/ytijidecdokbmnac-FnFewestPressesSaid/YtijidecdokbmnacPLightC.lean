
/-
  The program's lights: PressAll, ChaseDown.
-/
import Derived.Test.YtijidecdokbmnacPLightB
namespace Go.Proofs.Ytijidecdokbmnac
open Go.RowKit
set_option linter.unusedVariables false

theorem litOf_yes {w h : Nat} {l : List Int} (hs : SetsN (w * h) l l.length) : litOf w h l = .tuple #[boardV (w : Int) (h : Int), .bool true] := if_pos hs
theorem litOf_no {w h : Nat} {l : List Int} (hs : ¬ SetsN (w * h) l l.length) : litOf w h l = .tuple #[boardV 0 0, .bool false] := if_neg hs
theorem inS_nat {n x : Nat} (h : x < 2 ^ n) : InS n (x : Int) := ⟨by omega, by omega⟩
theorem inS_lit {w h : Nat} {s : Int} (hw : 1 ≤ w ∧ w ≤ 5) (hh : 1 ≤ h ∧ h ≤ 5) (h12 : w * h ≤ 12) : LitS (w : Int) (h : Int) s ↔ InS (w * h) s := by
  unfold LitS InS
  rw [← Int.natCast_mul, Int.toNat_natCast]
  exact ⟨fun h' => h'.2, fun h' => ⟨lit12N hw hh h12, h'⟩⟩
/-- litBoard, of whatever sets. -/
theorem litBoard_c (bc br : Int) (A : Option Addr) (c : Nat) (l : List Int) (W : World) (hr : Row W A (ints l)) (hm : l.length ≤ 1000) :
    (∃ w h : Nat, bc = (w : Int) ∧ br = (h : Int) ∧ (1 ≤ w ∧ w ≤ 5) ∧ (1 ≤ h ∧ h ≤ 5) ∧ w * h ≤ 12 ∧ SetsN (w * h) l l.length ∧ Calls Try.prog 17 #[.int .i64 bc, .int .i64 br, .slice A l.length c] W (Plain (.tuple #[boardV (w : Int) (h : Int), .bool true]) W)) ∨
    ((¬ ∀ i, i < l.length → LitS bc br (l[i]?.getD 0)) ∨ ¬ Lit12 bc br) ∧ Calls Try.prog 17 #[.int .i64 bc, .int .i64 br, .slice A l.length c] W (Plain (.tuple #[boardV 0 0, .bool false]) W) := by
  by_cases hB : Brd bc br
  · by_cases h12 : bc * br ≤ 12
    · obtain ⟨h1, h2, h3, h4⟩ := hB
      obtain ⟨w, rfl⟩ := Int.eq_ofNat_of_zero_le (show 0 ≤ bc by omega)
      obtain ⟨h, rfl⟩ := Int.eq_ofNat_of_zero_le (show 0 ≤ br by omega)
      have h12' : w * h ≤ 12 := by rw [← Int.natCast_mul] at h12; omega
      have := litBoard_yes w h A c l W hr (by omega) (by omega) h12' hm
      by_cases hs : SetsN (w * h) l l.length
      · rw [litOf_yes hs] at this
        exact .inl ⟨w, h, rfl, rfl, by omega, by omega, h12', hs, this⟩
      · rw [litOf_no hs] at this
        exact .inr ⟨.inl fun h' => hs fun i hi => (inS_lit (by omega) (by omega) h12').1 (h' i hi), this⟩
    · exact .inr ⟨.inr fun h => h12 h.2, litBoard_no2 bc br A l.length c W hB h12⟩
  · exact .inr ⟨.inr fun h => hB h.1, litBoard_no1 bc br A l.length c W hB⟩

theorem rowsP_at (L : List Nat) {k : Nat} (hk : k < L.length) : (rowsP L)[k]?.getD (0, 0) = (2 ^ k, L[k]?.getD 0) := by
  unfold rowsP
  rw [List.getElem?_map, List.getElem?_range hk]
  rfl
theorem rowsP_len (L : List Nat) : (rowsP L).length = L.length := by simp [rowsP]

set_option maxHeartbeats 2000000 in
set_option maxRecDepth 100000 in
theorem implPressAll_c (bc br x s : Int) (W : World) : Calls Try.prog 12 #[.int .i64 bc, .int .i64 br, .int .i64 x, .int .i64 s] W (Plain (.int .i64 (pressV bc br x s)) W) := by
  have HLB := hide (litBoard_c bc br (some ⟨W.heap.size, 0, none⟩) 2 [x, s] (W.alloc (.cells #[.int .i64 x, .int .i64 s] 3)) (row_new W #[.int .i64 x, .int .i64 s] 3 rfl) (by simp))
  rcases HLB.out with ⟨w, h, rfl, rfl, hw, hh, h12, hS, hC⟩ | ⟨hN, hC⟩
  · obtain ⟨x', rfl⟩ := Int.eq_ofNat_of_zero_le (hS 0 (by simp)).1
    obtain ⟨s', rfl⟩ := Int.eq_ofNat_of_zero_le (hS 1 (by simp)).1
    have hx : x' < 2 ^ (w * h) := by have h0 := (hS 0 (by simp)).2; have p := Nat.two_pow_pos (w * h); simp only [List.getElem?_cons_zero, Option.getD_some] at h0; omega
    have hs : s' < 2 ^ (w * h) := by have h0 := (hS 1 (by simp)).2; have p := Nat.two_pow_pos (w * h); simp only [List.getElem?_cons_succ, List.getElem?_cons_zero, Option.getD_some] at h0; omega
    rw [pressV_nat hw hh h12 hx hs]
    have HC := hide hC
    have HP := hide (fun w5 => pressRows_c w h w5 hw hh h12)
    have hl := litL_len w h
    have HLt := hide (fun k => set12 h12 (lit_bd hw hh h12 k))
    have HBd := hide (fun k => set12 h12 (press_lt s' (fun k => lit_bd hw hh h12 k) hx k))
    have HS0 := hide (show pressTo (litL w h) x' s' 0 = x' from rfl)
    have HSS := hide (fun k => show pressTo (litL w h) x' s' (k + 1) = if bitN s' k = 1 then pressTo (litL w h) x' s' k ^^^ ((litL w h)[k]?.getD 0) else pressTo (litL w h) x' s' k from rfl)
    have HRA := hide (fun k (hk : k < w * h) => rowsP_at (litL w h) (k := k) (by omega))
    have HRL := hide ((rowsP_len (litL w h)).trans hl)
    have hsb := set12 h12 hs
    have hp := pow12 h12
    have hpos : 0 < w * h := Nat.mul_pos (by omega) (by omega)
    clear HLB hS hC hx hs hw hh hl
    generalize litL w h = L at *
    generalize w * h = n at *
    go_enter Try.func12, Try.ntmps12
    go_wp2_with fail
    refine HC.out.mono ?_
    rintro e w1 ⟨rfl, b1⟩
    have hb1 : Below W.heap.size W w1 := below_then ((Below.refl _ _).alloc (Nat.le_refl _) _) (by simp) b1
    clear b1 HC
    go_wp2_with fail
    refine (HP.out _).mono ?_
    rintro e w2 ⟨v2, rfl, o2, b2⟩
    have hb2 := below_then (hb1.alloc hb1.size (.cells #[.int .i64 (w : Int), .int .i64 (h : Int)] 34)) (hb1.alloc hb1.size (.cells #[.int .i64 (w : Int), .int .i64 (h : Int)] 34)).size b2
    obtain ⟨g, c2, rfl, _, _⟩ := own_addr o2 hpos
    have R2 := hide (own_reads o2)
    clear o2 b2 hb1
    go_wp2_with fail
    go_loopw [11, 29] (fun a i wr => ∃ k : Nat, k ≤ n ∧ i = .int .i64 (k : Int) ∧ a = .int .i64 ((pressTo L x' s' k : Nat) : Int) ∧ Below w2.heap.size w2 wr) (fun _ i _ => n - (intOf i).toNat)
    case atStart => exact ⟨0, Nat.zero_le _, rfl, by rw [HS0.out], Below.refl _ _⟩
    case round =>
      obtain ⟨k, hk, rfl, rfl, hb⟩ := hrel
      obtain ⟨wo, rfl⟩ : ∃ wo : World, wo = wr := ⟨_, rfl⟩
      by_cases hlt : k < n
      · have hr := R2.out.below hb
        obtain ⟨q1, q2⟩ := Row.row2 hr (k := k) (by rw [HRL.out]; exact hlt)
        rw [HRA.out k hlt] at q1 q2
        simp only at q1 q2
        have hSk := HSS.out k
        have hyb := HLt.out k
        have hzb := HBd.out k
        have hbt := bit64 s' k (by omega)
        have hbx := (Box.new wo 44 #[.int .i64 ((2 ^ k : Nat) : Int), .int .i64 ((L[k]?.getD 0 : Nat) : Int)])
        have hb' := hb.alloc hb.size (.cells #[.int .i64 ((2 ^ k : Nat) : Int), .int .i64 ((L[k]?.getD 0 : Nat) : Int)] 44)
        have k0 : (0 : Int) ≤ (k : Int) := by omega
        have k1 : (k : Int) < (n : Int) := by omega
        have k64 : (k : Int) < 64 := by omega
        rcases bitN_two s' k with hbb | hbb
        · rw [hbb] at hbt hSk
          rw [if_neg (by omega)] at hSk
          have HSk := hide hSk
          clear hSk hbb hbx
          generalize 2 ^ k = P at *
          generalize L[k]?.getD 0 = y at *
          go_wp2_with fail
          exact ⟨⟨k + 1, hlt, by go_num, by rw [HSk.out], hb'⟩, by simp [intOf]; omega⟩
        · rw [hbb] at hbt hSk
          rw [if_pos rfl] at hSk
          have HSk := hide hSk
          have HX := hide (fun w5 => addedL_c (pressTo L x' s' k) (L[k]?.getD 0) (by omega) hyb w5)
          have d1 := hbx.cell 1
          clear hSk hbb hbx
          generalize 2 ^ k = P at *
          generalize L[k]?.getD 0 = y at *
          generalize pressTo L x' s' k = z at *
          go_wp2_with fail
          refine (HX.out _).mono ?_
          rintro e w3 ⟨rfl, rfl⟩
          go_wp2_with fail
          exact ⟨⟨k + 1, hlt, by go_num, by rw [HSk.out], hb'⟩, by simp [intOf]; omega⟩
      · obtain rfl : k = n := by omega
        go_wp2_with fail
        go_ret
        exact ⟨rfl, below_then hb2 hb2.size hb⟩
  · have hv : pressV bc br x s = -1 := by
      unfold pressV
      refine if_neg fun h' => ?_
      rcases hN with hN | hN
      · refine hN fun i hi => ?_
        simp at hi
        obtain rfl | rfl : i = 0 ∨ i = 1 := by omega
        · exact h'.1
        · exact h'.2
      · exact hN h'.1.1
    rw [hv]
    have HC := hide hC
    clear HLB hN hC hv
    go_enter Try.func12, Try.ntmps12
    go_wp2_with fail
    refine HC.out.mono ?_
    rintro e w1 ⟨rfl, b1⟩
    have hb1 : Below W.heap.size W w1 := below_then ((Below.refl _ _).alloc (Nat.le_refl _) _) (by simp) b1
    go_wp2_with fail
    go_ret
    exact ⟨rfl, hb1.alloc hb1.size _⟩

theorem or_plus {a k : Nat} (h : a < 2 ^ k) : a ||| 2 ^ k = a + 2 ^ k := by
  have := Nat.two_pow_add_eq_or_of_lt h 1
  rw [Nat.mul_one] at this
  rw [Nat.or_comm, ← this, Nat.add_comm]
end Go.Proofs.Ytijidecdokbmnac
