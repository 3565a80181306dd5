
/-
  The program's lights: litBoard, added, effectOf.
-/
import Derived.Test.YtijidecdokbmnacMoveG
import Derived.Test.YtijidecdokbmnacLightB
import Derived.Deep.RegionHeld3
namespace Go.Proofs.Ytijidecdokbmnac
open Go.RowKit
set_option linter.unusedVariables false

theorem allOf12_c (n : Nat) (h : n ≤ 12) (w : World) : Calls Try.prog 37 #[.int .i64 (n : Int)] w fun e w' => e = .returned (.int .i64 (((2 ^ n : Nat) : Int) - 1)) ∧ w = w' := by
  have es := shl64 n (by omega)
  have hp := pow12 h
  generalize (2 ^ n : Nat) = P at *
  go_enter Try.func37, Try.ntmps37
  go_wp2
  go_ret
  exact ⟨rfl, rfl⟩
theorem boardEnd {w : World} {g : Nat} {t : TypeId} {x y u v : Value} (h : Box w g t #[x, y]) :
    w.cell? ⟨g, 0, none⟩ = some x ∧ w.frozen? ⟨g, 0, none⟩ = false ∧ (w.setCell ⟨g, 0, none⟩ u).cell? ⟨g, 0, none⟩ = some u ∧ (w.setCell ⟨g, 0, none⟩ u).cell? ⟨g, 1, none⟩ = some y ∧ (w.setCell ⟨g, 0, none⟩ u).frozen? ⟨g, 1, none⟩ = false ∧
    ((w.setCell ⟨g, 0, none⟩ u).setCell ⟨g, 1, none⟩ v).cell? ⟨g, 0, none⟩ = some u ∧ ((w.setCell ⟨g, 0, none⟩ u).setCell ⟨g, 1, none⟩ v).cell? ⟨g, 1, none⟩ = some v :=
  ⟨h.cell 0, h.free 0, (h.set 0 u).cell 0, (h.set 0 u).cell 1, (h.set 0 u).free 1, ((h.set 0 u).set 1 v).cell 0, ((h.set 0 u).set 1 v).cell 1⟩

def InS (n : Nat) (s : Int) : Prop := 0 ≤ s ∧ s ≤ ((2 ^ n : Nat) : Int) - 1
instance (n : Nat) (s : Int) : Decidable (InS n s) := by unfold InS; infer_instance
def SetsN (n : Nat) (l : List Int) (k : Nat) : Prop := ∀ i, i < k → InS n (l[i]?.getD 0)
instance (n : Nat) (l : List Int) (k : Nat) : Decidable (SetsN n l k) := by unfold SetsN; infer_instance

set_option maxHeartbeats 1000000 in
theorem litBoard_no1 (bc br : Int) (A : Option Addr) (l c : Nat) (W : World) (hn : ¬ Brd bc br) :
    Calls Try.prog 17 #[.int .i64 bc, .int .i64 br, .slice A l c] W (Plain (.tuple #[boardV 0 0, .bool false]) W) := by
  have box0 := Box.new W 34 #[.int .i64 0, .int .i64 0]
  have HB := hide (fun w5 => boardOf_no bc br w5 hn)
  clear hn
  go_enter Try.func17, Try.ntmps17
  go_wp2_with fail
  refine (HB.out _).mono ?_
  rintro e w1 ⟨rfl, hb1⟩
  obtain ⟨c1, c2, c3, c4, c5, c6, c7⟩ := boardEnd (u := .int .i64 0) (v := .int .i64 0) (box0.then hb1)
  have bxe := (((box0.then hb1).set 0 (.int .i64 0)).set 1 (.int .i64 0)).alloc (.cells #[.int .i64 0, .int .i64 0] 34)
  have d0 := bxe.cell 0
  have d1 := bxe.cell 1
  simp only [List.setIfInBounds_toArray] at d0 d1
  have z1 : W.heap.size < w1.heap.size := by have := hb1.size; simp at this; omega
  go_wp2_with fail
  refine bodyPost_ret (v := .tuple #[boardV 0 0, .bool false]) (by simp [results, Try.results17, go_sem, d0, d1]) rfl ⟨rfl, ?_⟩
  exact (((below_then ((Below.refl _ _).alloc (Nat.le_refl _) _) (by simp) hb1).setCell (Nat.le_refl _) _).setCell (Nat.le_refl _) _).alloc (by simp; omega) _
set_option maxHeartbeats 1000000 in
theorem litBoard_no2 (bc br : Int) (A : Option Addr) (l c : Nat) (W : World) (hB : Brd bc br) (hn : ¬ bc * br ≤ 12) :
    Calls Try.prog 17 #[.int .i64 bc, .int .i64 br, .slice A l c] W (Plain (.tuple #[boardV 0 0, .bool false]) W) := by
  obtain ⟨h1, h2, h3, h4⟩ := hB
  have box0 := Box.new W 34 #[.int .i64 0, .int .i64 0]
  have HB := hide (fun w5 => boardOf_yes bc br w5 h1 h2 h3 h4)
  have HZ := hide (fun w5 => size_c bc br w5 h1 h2 h3 h4)
  obtain ⟨m, hm⟩ : ∃ m, bc * br = m := ⟨_, rfl⟩
  rw [hm] at HZ hn
  clear hm
  go_enter Try.func17, Try.ntmps17
  go_wp2_with fail
  refine (HB.out _).mono ?_
  rintro e w1 ⟨rfl, hb1⟩
  have box1 := (box0.then hb1).alloc (.cells #[.int .i64 bc, .int .i64 br] 34)
  have hb1 : Below W.heap.size W w1 := below_then ((Below.refl _ _).alloc (Nat.le_refl _) _) (by simp) hb1
  go_wp2_with fail
  refine (HZ.out _).mono ?_
  rintro e w2 ⟨rfl, hb2⟩
  obtain ⟨c1, c2, c3, c4, c5, c6, c7⟩ := boardEnd (u := .int .i64 0) (v := .int .i64 0) (box1.then hb2)
  go_wp2_with fail
  refine bodyPost_ret (v := .tuple #[boardV 0 0, .bool false]) (by simp [results, Try.results17, go_sem, c6, c7]) rfl ⟨rfl, ?_⟩
  exact ((below_then (hb1.alloc hb1.size _) (by have := hb1.size; simp; omega) hb2).setCell (Nat.le_refl _) _).setCell (Nat.le_refl _) _

/-- What litBoard answers for a board that is small. -/
def litOf (w h : Nat) (l : List Int) : Value := if SetsN (w * h) l l.length then .tuple #[boardV (w : Int) (h : Int), .bool true] else .tuple #[boardV 0 0, .bool false]
set_option maxHeartbeats 4000000 in
set_option maxRecDepth 100000 in
theorem litBoard_yes (w h : Nat) (A : Option Addr) (c : Nat) (l : List Int) (W : World) (hr : Row W A (ints l)) (hw : 1 ≤ w ∧ w ≤ 5) (hh : 1 ≤ h ∧ h ≤ 5) (h12 : w * h ≤ 12) (hm : l.length ≤ 1000) :
    Calls Try.prog 17 #[.int .i64 (w : Int), .int .i64 (h : Int), .slice A l.length c] W (Plain (litOf w h l) W) := by
  have w1 : (1 : Int) ≤ (w : Int) := by omega
  have w5 : (w : Int) ≤ 5 := by omega
  have h1 : (1 : Int) ≤ (h : Int) := by omega
  have h5 : (h : Int) ≤ 5 := by omega
  have box0 := Box.new W 34 #[.int .i64 0, .int .i64 0]
  have HB := hide (fun w5' => boardOf_yes (w : Int) (h : Int) w5' w1 w5 h1 h5)
  have HZ := hide (fun w6 => by
    have := size_c (w : Int) (h : Int) w6 w1 w5 h1 h5
    rw [← Int.natCast_mul] at this
    exact this)
  have HF := hide (fun w6 => allOf12_c (w * h) h12 w6)
  have HR := hide hr
  have hp := pow12 h12
  have HY : Hid (SetsN (w * h) l l.length → litOf w h l = .tuple #[boardV (w : Int) (h : Int), .bool true]) := fun h' => if_pos h'
  have HNo : Hid (¬ SetsN (w * h) l l.length → litOf w h l = .tuple #[boardV 0 0, .bool false]) := fun h' => if_neg h'
  have hin : Hid (∀ s, InS (w * h) s ↔ 0 ≤ s ∧ s ≤ ((2 ^ (w * h) : Nat) : Int) - 1) := fun s => Iff.rfl
  generalize litOf w h l = V at *
  generalize w * h = n at *
  generalize (2 ^ n : Nat) = P at *
  have n12 : (n : Int) ≤ 12 := by omega
  clear hr
  go_enter Try.func17, Try.ntmps17
  go_wp2_with fail
  refine (HB.out _).mono ?_
  rintro e w1' ⟨rfl, hb1⟩
  have box1 := (box0.then hb1).alloc (.cells #[.int .i64 (w : Int), .int .i64 (h : Int)] 34)
  have boxb := Box.new w1' 34 #[.int .i64 (w : Int), .int .i64 (h : Int)]
  have hb1 : Below W.heap.size W w1' := below_then ((Below.refl _ _).alloc (Nat.le_refl _) _) (by simp) hb1
  go_wp2_with fail
  refine (HZ.out _).mono ?_
  rintro e w2 ⟨rfl, hb2⟩
  have box2 := box1.then hb2
  have boxb2 := boxb.then hb2
  have zb1 := hb1.size
  have hb2 := below_then (hb1.alloc hb1.size _) (by have := hb1.size; simp; omega) hb2
  obtain ⟨gb, hgb⟩ : ∃ gb, w1'.heap.size = gb := ⟨_, rfl⟩
  rw [hgb] at boxb2 zb1 ⊢
  clear hb1 box0 box1 boxb HB hgb
  have zb2 : W.heap.size < gb := by
    rcases Nat.lt_or_ge W.heap.size gb with h' | h'
    · exact h'
    · have e : gb = W.heap.size := by omega
      subst e
      have := box2.symm.trans boxb2
      simp at this
      omega
  go_wp2_with fail
  go_loopw [28] (fun i wr => ∃ k : Nat, k ≤ l.length ∧ i = .int .i64 (k : Int) ∧ SetsN n l k ∧ Below W.heap.size W wr ∧ Box wr W.heap.size 34 #[.int .i64 0, .int .i64 0] ∧ Box wr gb 34 #[.int .i64 (w : Int), .int .i64 (h : Int)]) (fun i _ => l.length - (intOf i).toNat)
  case atStart => exact ⟨0, Nat.zero_le _, rfl, fun i hi => absurd hi (by omega), hb2, box2, boxb2⟩
  case round =>
    obtain ⟨k, hk, rfl, hS, hb, bx, bxb⟩ := hrel
    obtain ⟨wo, rfl⟩ : ∃ wo : World, wo = wr := ⟨_, rfl⟩
    have zo := hb.size
    have b0 := bxb.cell 0
    have b1 := bxb.cell 1
    by_cases hlt : k < l.length
    · obtain ⟨ad, rfl, hck⟩ := (HR.out.below hb).int (k := k) hlt
      have HSk : Hid (InS n (l[k]?.getD 0) → SetsN n l (k + 1)) := fun h' i hi => by
        by_cases e : i = k
        · subst e; exact h'
        · exact hS i (by omega)
      have HSn : Hid (¬ InS n (l[k]?.getD 0) → ¬ SetsN n l l.length) := fun h' hs => h' (hs k hlt)
      generalize l[k]?.getD 0 = x at *
      have k0 : (0 : Int) ≤ (k : Int) := by omega
      have k1 : (k : Int) < (l.length : Int) := by omega
      have HS := hide hS
      clear hS
      by_cases x0 : x < 0
      · have hV := HNo.out (HSn.out (fun h' => by have := (hin.out x).1 h'; omega))
        obtain ⟨c1, c2, c3, c4, c5, c6, c7⟩ := boardEnd (u := .int .i64 0) (v := .int .i64 0) bx
        go_wp2_with fail
        refine bodyPost_ret (v := .tuple #[boardV 0 0, .bool false]) (by simp [results, Try.results17, go_sem, c6, c7]) rfl ⟨by rw [hV], ?_⟩
        exact (hb.setCell (Nat.le_refl _) _).setCell (Nat.le_refl _) _
      · have x0' : 0 ≤ x := by omega
        by_cases xP : x ≤ (P : Int) - 1
        · have HT := hide (HSk.out ((hin.out x).2 ⟨x0', xP⟩))
          go_wp2_with fail
          refine (HZ.out _).mono ?_
          rintro e w3 ⟨rfl, hb3⟩
          go_wp2_with fail
          refine (HF.out _).mono ?_
          rintro e w4 ⟨rfl, rfl⟩
          have bx3 := bx.then hb3
          have bxb3 := bxb.then hb3
          have hb3 := below_then hb hb.size hb3
          go_wp2_with fail
          exact ⟨⟨k + 1, hlt, by go_num, HT.out, hb3, bx3, bxb3⟩, by simp [intOf]; omega⟩
        · have hV := HNo.out (HSn.out (fun h' => by have := (hin.out x).1 h'; omega))
          go_wp2_with fail
          refine (HZ.out _).mono ?_
          rintro e w3 ⟨rfl, hb3⟩
          go_wp2_with fail
          refine (HF.out _).mono ?_
          rintro e w4 ⟨rfl, rfl⟩
          obtain ⟨c1, c2, c3, c4, c5, c6, c7⟩ := boardEnd (u := .int .i64 0) (v := .int .i64 0) (bx.then hb3)
          have hb3 := below_then hb hb.size hb3
          go_wp2_with fail
          refine bodyPost_ret (v := .tuple #[boardV 0 0, .bool false]) (by simp [results, Try.results17, go_sem, c6, c7]) rfl ⟨by rw [hV], ?_⟩
          exact (hb3.setCell (Nat.le_refl _) _).setCell (Nat.le_refl _) _
    · obtain rfl : k = l.length := by omega
      have hV := HY.out hS
      obtain ⟨c1, c2, c3, c4, c5, c6, c7⟩ := boardEnd (u := .int .i64 (w : Int)) (v := .int .i64 (h : Int)) bx
      go_wp2_with fail
      refine bodyPost_ret (v := .tuple #[boardV (w : Int) (h : Int), .bool true]) (by simp [results, Try.results17, go_sem, c6, c7]) rfl ⟨by rw [hV], ?_⟩
      exact (hb.setCell (Nat.le_refl _) _).setCell (Nat.le_refl _) _

theorem addedL_c (a b : Nat) (ha : a < 4096) (hb : b < 4096) (W : World) : Calls Try.prog 31 #[.int .i64 (a : Int), .int .i64 (b : Int)] W fun e w' => e = .returned (.int .i64 ((a ^^^ b : Nat) : Int)) ∧ W = w' := by
  have e1 := xor64 a b (by omega) (by omega)
  go_enter Try.func31, Try.ntmps31
  go_wp2_with fail
  go_ret
  exact ⟨rfl, rfl⟩
theorem addedP_c (a b : Nat) (ha : a < 4096) (hb : b < 4096) (W : World) : Calls Try.prog 24 #[.int .i64 (a : Int), .int .i64 (b : Int)] W fun e w' => e = .returned (.int .i64 ((a ^^^ b : Nat) : Int)) ∧ W = w' := by
  have e1 := xor64 a b (by omega) (by omega)
  go_enter Try.func24, Try.ntmps24
  go_wp2_with fail
  go_ret
  exact ⟨rfl, rfl⟩

/-- Whether a press of one cell turns another. -/
def nearB (w h p q : Nat) : Bool := q == p || (cellsP (w : Int) (h : Int) false [] (p : Int) straight).contains (q : Int)
set_option maxHeartbeats 1000000 in
set_option maxRecDepth 100000 in
theorem effectOf_c (w h p q : Nat) (W : World) (hw : 1 ≤ w ∧ w ≤ 5) (hh : 1 ≤ h ∧ h ≤ 5) (hp : p < w * h) :
    Calls Try.prog 42 #[boardV (w : Int) (h : Int), .int .i64 (p : Int), .int .i64 (q : Int)] W (Plain (.int .i64 (if nearB w h p q then 1 else 0)) W) := by
  by_cases hpq : q = p
  · have he : (if nearB w h p q then (1 : Int) else 0) = 1 := by unfold nearB; rw [hpq]; simp
    rw [he]
    subst hpq
    have hqq : ((q : Int) == (q : Int)) = true := by simp
    clear he
    go_enter Try.func42, Try.ntmps42
    go_wp2_with fail
    go_quiet (fail)
    go_wp2
    go_ret
    exact ⟨rfl, below_drewN ((Below.refl _ _).alloc (Nat.le_refl _) _) _⟩
  · have he : nearB w h p q = (reachP (w : Int) (h : Int) false [] (p : Int) straight).contains (q : Int) := by
      unfold nearB
      rw [beq_eq_false_iff_ne.2 hpq, Bool.false_or, Bool.eq_iff_iff, List.contains_iff_mem, List.contains_iff_mem]
      exact (List.mergeSort_perm _ _).mem_iff.symm
    rw [he]
    have hne : ((q : Int) == (p : Int)) = false := by rw [beq_eq_false_iff_ne]; omega
    have HR := hide (fun (g : Nat) (w5 : World) (hr : Row w5 (some ⟨g, 0, none⟩) [.int .i64 (-1), .int .i64 0, .int .i64 0, .int .i64 (-1), .int .i64 0, .int .i64 1, .int .i64 1, .int .i64 0]) => show Calls Try.prog 47 #[boardV (w : Int) (h : Int), .iface 77 (.agg #[.slice (some ⟨g, 0, none⟩) 4 4]), .int .i64 (p : Int), .slice none 0 0] w5 (Owns 3 1 (reachP (w : Int) (h : Int) false [] (p : Int) straight).length (ints (reachP (w : Int) (h : Int) false [] (p : Int) straight)) w5) from reach_near (w : Int) (h : Int) (p : Int) g none 4 0 straight [] w5 (by omega) (by omega) (by omega) (by omega) (by omega) (by rw [← Int.natCast_mul]; omega) (hide (by decide)) (by decide) hr (Row.empty _ _) (fun _ e => by cases e) (by simp [maxLen]))
    have hlen : (reachP (w : Int) (h : Int) false [] (p : Int) straight).length ≤ maxLen := by
      have := reach_len (w : Int) (h : Int) false [] (p : Int) straight
      rw [show straight.length = 4 from rfl] at this
      unfold maxLen
      omega
    have HC := hide (fun (O : Option Addr) (oc : Nat) (w5 : World) (hr : Row w5 O (ints (reachP (w : Int) (h : Int) false [] (p : Int) straight))) (hf : Flat O) => contains_c O (reachP (w : Int) (h : Int) false [] (p : Int) straight) oc (q : Int) w5 hr hf hlen)
    have HST := hide (fun w5 => straight_c w5)
    have bx0 := Box.new W 34 #[.int .i64 (w : Int), .int .i64 (h : Int)]
    generalize reachP (w : Int) (h : Int) false [] (p : Int) straight = L at *
    clear he hpq
    obtain ⟨V, hV⟩ : ∃ V : Int, (if L.contains (q : Int) = true then (1 : Int) else 0) = V := ⟨_, rfl⟩
    rw [hV]
    have HV := hide hV
    clear hV
    generalize L.contains (q : Int) = bb at *
    go_enter Try.func42, Try.ntmps42
    go_wp2_with fail
    have hbd : Below W.heap.size W (W.alloc (.cells #[.int .i64 (w : Int), .int .i64 (h : Int)] 34)).drew := ((Below.refl _ _).alloc (Nat.le_refl _) _).drew
    have bxd : Box (W.alloc (.cells #[.int .i64 (w : Int), .int .i64 (h : Int)] 34)).drew W.heap.size 34 #[.int .i64 (w : Int), .int .i64 (h : Int)] := bx0
    have k0 := bxd.cell 0
    have k1 := bxd.cell 1
    go_region_held3 (fun w' => w'.cell? ⟨W.heap.size, 0, none⟩ = some (.int .i64 (w : Int)) ∧ w'.cell? ⟨W.heap.size, 1, none⟩ = some (.int .i64 (h : Int))) (go_keep)
      (first
        | (go_at_call 48; refine (HST.out _).mono ?_
           rintro e w1 ⟨rfl, rfl⟩
           have hr1 := hide (row_new (W.alloc (.cells #[.int .i64 (w : Int), .int .i64 (h : Int)] 34)).drew #[.int .i64 (-1), .int .i64 0, .int .i64 0, .int .i64 (-1), .int .i64 0, .int .i64 1, .int .i64 1, .int .i64 0] 83 (n := W.heap.size + 1) (by simp))
           have bx1 := bxd.alloc (.cells #[.int .i64 (-1), .int .i64 0, .int .i64 0, .int .i64 (-1), .int .i64 0, .int .i64 1, .int .i64 1, .int .i64 0] 83)
           have k10 := bx1.cell 0
           have k11 := bx1.cell 1
           have hb1 := hbd.alloc hbd.size (.cells #[.int .i64 (-1), .int .i64 0, .int .i64 0, .int .i64 (-1), .int .i64 0, .int .i64 1, .int .i64 1, .int .i64 0] 83))
        | (go_at_call 47; refine (HR.out _ _ hr1.out).mono ?_
           rintro e w2 ⟨v2, rfl, o2, b2⟩
           have bx2 := bx1.then b2
           have k20 := bx2.cell 0
           have k21 := bx2.cell 1
           have hb2 := below_then hb1 hb1.size b2
           obtain ⟨A2, c2, rfl, _, _, r2, hf2⟩ := own_row o2
           have r2 := hide r2
           have hf2 := hide (show Flat A2 from fun ad e => by obtain ⟨g, rfl, _⟩ := hf2 ad e; exact ⟨_, _, rfl⟩)
           clear o2 b2)
        | (go_at_call 46; refine (HC.out _ _ _ r2.out hf2.out).mono ?_
           rintro e w3 ⟨rfl, b3⟩
           have bx3 := bx2.then b3
           have k30 := bx3.cell 0
           have k31 := bx3.cell 1
           have hb3 := below_then hb2 hb2.size b3
           clear b3)
        | fail)
    cases bb with
    | true =>
      go_wp2_with fail
      go_ret
      exact ⟨by rw [← HV.out]; rfl, hb3⟩
    | false =>
      go_wp2_with fail
      go_ret
      exact ⟨by rw [← HV.out]; rfl, hb3⟩
end Go.Proofs.Ytijidecdokbmnac
