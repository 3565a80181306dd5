
/-
  The program's lights: PressAll, ChaseDown.
-/
import Derived.Test.YtijidecdokbmnabPLightB
namespace Go.Proofs.Ytijidecdokbmnab
open Go.RowKit
set_option linter.unusedVariables false

theorem litOf_yes {w h : Nat} {l : List Int} (hs : SetsN (w * h) l l.length) : litOf w h l = .tuple #[boardV (w : Int) (h : Int), .bool true] := if_pos hs
theorem litOf_no {w h : Nat} {l : List Int} (hs : ¬ SetsN (w * h) l l.length) : litOf w h l = .tuple #[boardV 0 0, .bool false] := if_neg hs
theorem inS_nat {n x : Nat} (h : x < 2 ^ n) : InS n (x : Int) := ⟨by omega, by omega⟩
theorem inS_lit {w h : Nat} {s : Int} (hw : 1 ≤ w ∧ w ≤ 5) (hh : 1 ≤ h ∧ h ≤ 5) (h12 : w * h ≤ 12) : LitS (w : Int) (h : Int) s ↔ InS (w * h) s := by
  unfold LitS InS
  rw [← Int.natCast_mul, Int.toNat_natCast]
  exact ⟨fun h' => h'.2, fun h' => ⟨lit12N hw hh h12, h'⟩⟩
/-- litBoard, of whatever sets. -/
theorem litBoard_c (bc br : Int) (A : Option Addr) (c : Nat) (l : List Int) (W : World) (hr : Row W A (ints l)) (hm : l.length ≤ 1000) :
    (∃ w h : Nat, bc = (w : Int) ∧ br = (h : Int) ∧ (1 ≤ w ∧ w ≤ 5) ∧ (1 ≤ h ∧ h ≤ 5) ∧ w * h ≤ 12 ∧ SetsN (w * h) l l.length ∧ Calls Try.prog 17 #[.int .i64 bc, .int .i64 br, .slice A l.length c] W (Plain (.tuple #[boardV (w : Int) (h : Int), .bool true]) W)) ∨
    ((¬ ∀ i, i < l.length → LitS bc br (l[i]?.getD 0)) ∨ ¬ Lit12 bc br) ∧ Calls Try.prog 17 #[.int .i64 bc, .int .i64 br, .slice A l.length c] W (Plain (.tuple #[boardV 0 0, .bool false]) W) := by
  by_cases hB : Brd bc br
  · by_cases h12 : bc * br ≤ 12
    · obtain ⟨h1, h2, h3, h4⟩ := hB
      obtain ⟨w, rfl⟩ := Int.eq_ofNat_of_zero_le (show 0 ≤ bc by omega)
      obtain ⟨h, rfl⟩ := Int.eq_ofNat_of_zero_le (show 0 ≤ br by omega)
      have h12' : w * h ≤ 12 := by rw [← Int.natCast_mul] at h12; omega
      have := litBoard_yes w h A c l W hr (by omega) (by omega) h12' hm
      by_cases hs : SetsN (w * h) l l.length
      · rw [litOf_yes hs] at this
        exact .inl ⟨w, h, rfl, rfl, by omega, by omega, h12', hs, this⟩
      · rw [litOf_no hs] at this
        exact .inr ⟨.inl fun h' => hs fun i hi => (inS_lit (by omega) (by omega) h12').1 (h' i hi), this⟩
    · exact .inr ⟨.inr fun h => h12 h.2, litBoard_no2 bc br A l.length c W hB h12⟩
  · exact .inr ⟨.inr fun h => hB h.1, litBoard_no1 bc br A l.length c W hB⟩

theorem rowsP_at (L : List Nat) {k : Nat} (hk : k < L.length) : (rowsP L)[k]?.getD (0, 0) = (2 ^ k, L[k]?.getD 0) := by
  unfold rowsP
  rw [List.getElem?_map, List.getElem?_range hk]
  rfl
theorem rowsP_len (L : List Nat) : (rowsP L).length = L.length := by simp [rowsP]

theorem or_plus {a k : Nat} (h : a < 2 ^ k) : a ||| 2 ^ k = a + 2 ^ k := by
  have := Nat.two_pow_add_eq_or_of_lt h 1
  rw [Nat.mul_one] at this
  rw [Nat.or_comm, ← this, Nat.add_comm]
set_option maxHeartbeats 2000000 in
set_option maxRecDepth 100000 in
theorem implChaseDown_c (bc br x : Int) (W : World) : Calls Try.prog 12 #[.int .i64 bc, .int .i64 br, .int .i64 x] W (Plain (.tuple #[.int .i64 (chaseV bc br x).1, .int .i64 (chaseV bc br x).2]) W) := by
  have HLB := hide (litBoard_c bc br (some ⟨W.heap.size, 0, none⟩) 1 [x] (W.alloc (.cells #[.int .i64 x] 3)) (row_new W #[.int .i64 x] 3 rfl) (by simp))
  rcases HLB.out with ⟨w, h, rfl, rfl, hw, hh, h12, hS, hC⟩ | ⟨hN, hC⟩
  · obtain ⟨x', rfl⟩ := Int.eq_ofNat_of_zero_le (hS 0 (by simp)).1
    have hx : x' < 2 ^ (w * h) := by have h0 := (hS 0 (by simp)).2; have p := Nat.two_pow_pos (w * h); simp only [List.getElem?_cons_zero, Option.getD_some] at h0; omega
    rw [chaseV_nat hw hh h12 hx]
    have HC := hide hC
    have HP := hide (fun w5 => pressRows_c w h w5 hw hh h12)
    have hl := litL_len w h
    have HLt := hide (fun k => set12 h12 (lit_bd hw hh h12 k))
    have HBd := hide (fun k => chase_lt (w := w) (fun k => lit_bd hw hh h12 k) hx k)
    have HS0 := hide (show chaseTo (litL w h) w x' 0 = (0, x') from rfl)
    have HSS := hide (fun k => show chaseTo (litL w h) w x' (k + 1) = if w ≤ k ∧ bitN (chaseTo (litL w h) w x' k).2 (k - w) = 1 then ((chaseTo (litL w h) w x' k).1 + 2 ^ k, (chaseTo (litL w h) w x' k).2 ^^^ ((litL w h)[k]?.getD 0)) else chaseTo (litL w h) w x' k from rfl)
    have HRA := hide (fun k (hk : k < w * h) => rowsP_at (litL w h) (k := k) (by omega))
    have HRL := hide ((rowsP_len (litL w h)).trans hl)
    have hp := pow12 h12
    have hpos : 0 < w * h := Nat.mul_pos (by omega) (by omega)
    clear HLB hS hC hx hh hl
    generalize litL w h = L at *
    generalize w * h = n at *
    go_enter Try.func12, Try.ntmps12
    go_wp2_with fail
    refine HC.out.mono ?_
    rintro e w1 ⟨rfl, b1⟩
    have hb1 : Below W.heap.size W w1 := below_then ((Below.refl _ _).alloc (Nat.le_refl _) _) (by simp) b1
    have bxb := Box.new w1 37 #[.int .i64 (w : Int), .int .i64 (h : Int)]
    clear b1 HC
    go_wp2_with fail
    refine (HP.out _).mono ?_
    rintro e w2 ⟨v2, rfl, o2, b2⟩
    have bxb := bxb.then b2
    have hb2 := below_then (hb1.alloc hb1.size (.cells #[.int .i64 (w : Int), .int .i64 (h : Int)] 37)) (hb1.alloc hb1.size (.cells #[.int .i64 (w : Int), .int .i64 (h : Int)] 37)).size b2
    obtain ⟨g, c2, rfl, _, _⟩ := own_addr o2 hpos
    have R2 := hide (own_reads o2)
    clear o2 b2 hb1
    obtain ⟨gb, hgb⟩ : ∃ gb, w1.heap.size = gb := ⟨_, rfl⟩
    rw [hgb] at bxb ⊢
    clear hgb
    go_wp2_with fail
    go_loopw [10, 11, 29] (fun p a i wr => ∃ k : Nat, k ≤ n ∧ i = .int .i64 (k : Int) ∧ p = .int .i64 ((chaseTo L w x' k).1 : Nat) ∧ a = .int .i64 ((chaseTo L w x' k).2 : Nat) ∧ Below w2.heap.size w2 wr) (fun _ _ i _ => n - (intOf i).toNat)
    case atStart => exact ⟨0, Nat.zero_le _, rfl, by rw [HS0.out]; rfl, by rw [HS0.out], Below.refl _ _⟩
    case round =>
      obtain ⟨k, hk, rfl, rfl, rfl, hb⟩ := hrel
      obtain ⟨wo, rfl⟩ : ∃ wo : World, wo = wr := ⟨_, rfl⟩
      by_cases hlt : k < n
      · have hr := R2.out.below hb
        obtain ⟨q1, q2⟩ := Row.row2 hr (k := k) (by rw [HRL.out]; exact hlt)
        rw [HRA.out k hlt] at q1 q2
        simp only at q1 q2
        have hSk := HSS.out k
        have hyb := HLt.out k
        obtain ⟨z1b, z2b⟩ := HBd.out k
        have hp12 := pow12 (n := k) (by omega)
        have z2b := set12 (n := n) (by omega) z2b
        have hbx := (Box.new wo 52 #[.int .i64 ((2 ^ k : Nat) : Int), .int .i64 ((L[k]?.getD 0 : Nat) : Int)])
        have hb' := hb.alloc hb.size (.cells #[.int .i64 ((2 ^ k : Nat) : Int), .int .i64 ((L[k]?.getD 0 : Nat) : Int)] 52)
        have bxk := (bxb.below hb bxb.in_).alloc (.cells #[.int .i64 ((2 ^ k : Nat) : Int), .int .i64 ((L[k]?.getD 0 : Nat) : Int)] 52)
        have e0 := bxk.cell 0
        have k0 : (0 : Int) ≤ (k : Int) := by omega
        have k1 : (k : Int) < (n : Int) := by omega
        by_cases hwk : w ≤ k
        · obtain ⟨d, hd⟩ : ∃ d, k - w = d := ⟨_, rfl⟩
          have ed : IntKind.i64.wrap ((k : Int) - (w : Int)) = (d : Int) := (IntWalk.i64_in _ (by omega)).trans (by omega)
          have d0 : (0 : Int) ≤ (d : Int) := by omega
          have d64 : (d : Int) < 64 := by omega
          rw [hd] at hSk
          have hbt := bit64 (chaseTo L w x' k).2 d (by omega)
          rcases bitN_two (chaseTo L w x' k).2 d with hbb | hbb
          · rw [hbb] at hbt hSk
            rw [if_neg (by omega)] at hSk
            have HS1 := hide (show (chaseTo L w x' (k + 1)).1 = (chaseTo L w x' k).1 by rw [hSk])
            have HS2 := hide (show (chaseTo L w x' (k + 1)).2 = (chaseTo L w x' k).2 by rw [hSk])
            clear hSk hbb hbx hd
            generalize (chaseTo L w x' k).1 = z1 at *
            generalize (chaseTo L w x' k).2 = z2 at *
            generalize 2 ^ k = P at *
            generalize L[k]?.getD 0 = y at *
            go_wp2_with fail
            exact ⟨⟨k + 1, hlt, by go_num, by rw [HS1.out] <;> (try push_cast) <;> (try rfl), by rw [HS2.out], hb'⟩, by simp [intOf]; omega⟩
          · rw [hbb] at hbt hSk
            rw [if_pos ⟨hwk, rfl⟩] at hSk
            have HS1 := hide (show (chaseTo L w x' (k + 1)).1 = (chaseTo L w x' k).1 + 2 ^ k by rw [hSk])
            have HS2 := hide (show (chaseTo L w x' (k + 1)).2 = (chaseTo L w x' k).2 ^^^ L[k]?.getD 0 by rw [hSk])
            have HX := hide (fun w5 => addedL_c (chaseTo L w x' k).2 (L[k]?.getD 0) z2b hyb w5)
            have eo := (or64 (chaseTo L w x' k).1 (2 ^ k) (by omega) (by omega)).trans (by rw [or_plus z1b])
            have d1 := hbx.cell 1
            have d2 := hbx.cell 0
            clear hSk hbb hbx hd
            generalize (chaseTo L w x' k).1 = z1 at *
            generalize (chaseTo L w x' k).2 = z2 at *
            generalize 2 ^ k = P at *
            generalize L[k]?.getD 0 = y at *
            go_wp2_with fail
            refine (HX.out _).mono ?_
            rintro e w3 ⟨rfl, rfl⟩
            go_wp2_with fail
            exact ⟨⟨k + 1, hlt, by go_num, by rw [HS1.out] <;> (try push_cast) <;> (try rfl), by rw [HS2.out], hb'⟩, by simp [intOf]; omega⟩
        · obtain ⟨d, hd⟩ : ∃ d : Int, (k : Int) - (w : Int) = d := ⟨_, rfl⟩
          have ed : IntKind.i64.wrap ((k : Int) - (w : Int)) = d := (IntWalk.i64_in _ (by omega)).trans hd
          have d0 : d < 0 := by omega
          rw [if_neg (by omega)] at hSk
          have HS1 := hide (show (chaseTo L w x' (k + 1)).1 = (chaseTo L w x' k).1 by rw [hSk])
          have HS2 := hide (show (chaseTo L w x' (k + 1)).2 = (chaseTo L w x' k).2 by rw [hSk])
          clear hSk hbx hd
          generalize (chaseTo L w x' k).1 = z1 at *
          generalize (chaseTo L w x' k).2 = z2 at *
          generalize 2 ^ k = P at *
          generalize L[k]?.getD 0 = y at *
          go_wp2_with fail
          exact ⟨⟨k + 1, hlt, by go_num, by rw [HS1.out] <;> (try push_cast) <;> (try rfl), by rw [HS2.out], hb'⟩, by simp [intOf]; omega⟩
      · obtain rfl : k = n := by omega
        go_wp2_with fail
        go_ret2
        exact ⟨rfl, below_then hb2 hb2.size hb⟩
  · have hv : chaseV bc br x = (-1, -1) := by
      unfold chaseV
      refine if_neg fun h' => ?_
      rcases hN with hN | hN
      · refine hN fun i hi => ?_
        simp at hi
        subst hi
        exact h'
      · exact hN h'.1
    rw [hv]
    have HC := hide hC
    clear HLB hN hC hv
    go_enter Try.func12, Try.ntmps12
    go_wp2_with fail
    refine HC.out.mono ?_
    rintro e w1 ⟨rfl, b1⟩
    have hb1 : Below W.heap.size W w1 := below_then ((Below.refl _ _).alloc (Nat.le_refl _) _) (by simp) b1
    go_wp2_with fail
    go_ret2
    exact ⟨rfl, hb1.alloc hb1.size _⟩
end Go.Proofs.Ytijidecdokbmnab
