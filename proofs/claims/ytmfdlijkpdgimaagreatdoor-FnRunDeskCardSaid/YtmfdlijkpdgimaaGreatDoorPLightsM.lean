/-
  PLightA, PLightB, PLightC, PLightD, PLightE, PLightG, PLightF in one text.
-/
import Derived.Test.YtmfdlijkpdgimaaGreatDoorMovesM
import Derived.Test.YtmfdlijkpdgimaaGreatDoorLightsM
import Derived.Deep.RegionHeld3
import Derived.OwnWalk
import Derived.StillTailTactics
import Derived.Test.YtmfdlijkpdgimaaGreatDoorLightE
import Derived.Lib.MinMax
import Derived.Test.YtmfdlijkpdgimaaGreatDoorLightG
/-
  The program's lights: litBoard, added, effectOf.
-/
namespace Go.Proofs.YtmfdlijkpdgimaaGreatDoor
open Go.RowKit
set_option linter.unusedVariables false

theorem allOf12_c (n : Nat) (h : n ≤ 12) (w : World) : Calls Tryz.prog 104 #[.int .i64 (n : Int)] w fun e w' => e = .returned (.int .i64 (((2 ^ n : Nat) : Int) - 1)) ∧ w = w' := by
  have es := shl64 n (by omega)
  have hp := pow12 h
  generalize (2 ^ n : Nat) = P at *
  go_enter Tryz.func104, Tryz.ntmps104
  go_wp2
  go_ret
  exact ⟨rfl, rfl⟩
theorem boardEndL {w : World} {g : Nat} {t : TypeId} {x y u v : Value} (h : Box w g t #[x, y]) :
    w.cell? ⟨g, 0, none⟩ = some x ∧ w.frozen? ⟨g, 0, none⟩ = false ∧ (w.setCell ⟨g, 0, none⟩ u).cell? ⟨g, 0, none⟩ = some u ∧ (w.setCell ⟨g, 0, none⟩ u).cell? ⟨g, 1, none⟩ = some y ∧ (w.setCell ⟨g, 0, none⟩ u).frozen? ⟨g, 1, none⟩ = false ∧
    ((w.setCell ⟨g, 0, none⟩ u).setCell ⟨g, 1, none⟩ v).cell? ⟨g, 0, none⟩ = some u ∧ ((w.setCell ⟨g, 0, none⟩ u).setCell ⟨g, 1, none⟩ v).cell? ⟨g, 1, none⟩ = some v :=
  ⟨h.cell 0, h.free 0, (h.set 0 u).cell 0, (h.set 0 u).cell 1, (h.set 0 u).free 1, ((h.set 0 u).set 1 v).cell 0, ((h.set 0 u).set 1 v).cell 1⟩

def InS (n : Nat) (s : Int) : Prop := 0 ≤ s ∧ s ≤ ((2 ^ n : Nat) : Int) - 1
instance (n : Nat) (s : Int) : Decidable (InS n s) := by unfold InS; infer_instance
def SetsN (n : Nat) (l : List Int) (k : Nat) : Prop := ∀ i, i < k → InS n (l[i]?.getD 0)
instance (n : Nat) (l : List Int) (k : Nat) : Decidable (SetsN n l k) := by unfold SetsN; infer_instance

set_option maxHeartbeats 1000000 in
theorem litBoard_no1 (bc br : Int) (A : Option Addr) (l c : Nat) (W : World) (hn : ¬ Brd bc br) :
    Calls Tryz.prog 80 #[.int .i64 bc, .int .i64 br, .slice A l c] W (Plain (.tuple #[boardV 0 0, .bool false]) W) := by
  have box0 := Box.new W 40 #[.int .i64 0, .int .i64 0]
  have HB := hide (fun w5 => boardOf_no bc br w5 hn)
  clear hn
  go_enter Tryz.func80, Tryz.ntmps80
  go_wp2_with fail
  refine (HB.out _).mono ?_
  rintro e w1 ⟨rfl, hb1⟩
  obtain ⟨c1, c2, c3, c4, c5, c6, c7⟩ := boardEndL (u := .int .i64 0) (v := .int .i64 0) (box0.then hb1)
  have bxe := (((box0.then hb1).set 0 (.int .i64 0)).set 1 (.int .i64 0)).alloc (.cells #[.int .i64 0, .int .i64 0] 40)
  have d0 := bxe.cell 0
  have d1 := bxe.cell 1
  simp only [List.setIfInBounds_toArray] at d0 d1
  have z1 : W.heap.size < w1.heap.size := by have := hb1.size; simp at this; omega
  go_wp2_with fail
  refine bodyPost_ret (v := .tuple #[boardV 0 0, .bool false]) (by simp [results, Tryz.results80, go_sem, d0, d1]) rfl ⟨rfl, ?_⟩
  exact (((below_then ((Below.refl _ _).alloc (Nat.le_refl _) _) (by simp) hb1).setCell (Nat.le_refl _) _).setCell (Nat.le_refl _) _).alloc (by simp; omega) _
set_option maxHeartbeats 1000000 in
theorem litBoard_no2 (bc br : Int) (A : Option Addr) (l c : Nat) (W : World) (hB : Brd bc br) (hn : ¬ bc * br ≤ 12) :
    Calls Tryz.prog 80 #[.int .i64 bc, .int .i64 br, .slice A l c] W (Plain (.tuple #[boardV 0 0, .bool false]) W) := by
  obtain ⟨h1, h2, h3, h4⟩ := hB
  have box0 := Box.new W 40 #[.int .i64 0, .int .i64 0]
  have HB := hide (fun w5 => boardOf_yes bc br w5 h1 h2 h3 h4)
  have HZ := hide (fun w5 => size_c bc br w5 h1 h2 h3 h4)
  obtain ⟨m, hm⟩ : ∃ m, bc * br = m := ⟨_, rfl⟩
  rw [hm] at HZ hn
  clear hm
  go_enter Tryz.func80, Tryz.ntmps80
  go_wp2_with fail
  refine (HB.out _).mono ?_
  rintro e w1 ⟨rfl, hb1⟩
  have box1 := (box0.then hb1).alloc (.cells #[.int .i64 bc, .int .i64 br] 40)
  have hb1 : Below W.heap.size W w1 := below_then ((Below.refl _ _).alloc (Nat.le_refl _) _) (by simp) hb1
  go_wp2_with fail
  refine (HZ.out _).mono ?_
  rintro e w2 ⟨rfl, hb2⟩
  obtain ⟨c1, c2, c3, c4, c5, c6, c7⟩ := boardEndL (u := .int .i64 0) (v := .int .i64 0) (box1.then hb2)
  go_wp2_with fail
  refine bodyPost_ret (v := .tuple #[boardV 0 0, .bool false]) (by simp [results, Tryz.results80, go_sem, c6, c7]) rfl ⟨rfl, ?_⟩
  exact ((below_then (hb1.alloc hb1.size _) (by have := hb1.size; simp; omega) hb2).setCell (Nat.le_refl _) _).setCell (Nat.le_refl _) _

/-- What litBoard answers for a board that is small. -/
def litOf (w h : Nat) (l : List Int) : Value := if SetsN (w * h) l l.length then .tuple #[boardV (w : Int) (h : Int), .bool true] else .tuple #[boardV 0 0, .bool false]
set_option maxHeartbeats 4000000 in
set_option maxRecDepth 100000 in
theorem litBoard_yes (w h : Nat) (A : Option Addr) (c : Nat) (l : List Int) (W : World) (hr : Row W A (ints l)) (hw : 1 ≤ w ∧ w ≤ 5) (hh : 1 ≤ h ∧ h ≤ 5) (h12 : w * h ≤ 12) (hm : l.length ≤ 1000) :
    Calls Tryz.prog 80 #[.int .i64 (w : Int), .int .i64 (h : Int), .slice A l.length c] W (Plain (litOf w h l) W) := by
  have w1 : (1 : Int) ≤ (w : Int) := by omega
  have w5 : (w : Int) ≤ 5 := by omega
  have h1 : (1 : Int) ≤ (h : Int) := by omega
  have h5 : (h : Int) ≤ 5 := by omega
  have box0 := Box.new W 40 #[.int .i64 0, .int .i64 0]
  have HB := hide (fun w5' => boardOf_yes (w : Int) (h : Int) w5' w1 w5 h1 h5)
  have HZ := hide (fun w6 => by
    have := size_c (w : Int) (h : Int) w6 w1 w5 h1 h5
    rw [← Int.natCast_mul] at this
    exact this)
  have HF := hide (fun w6 => allOf12_c (w * h) h12 w6)
  have HR := hide hr
  have hp := pow12 h12
  have HY : Hid (SetsN (w * h) l l.length → litOf w h l = .tuple #[boardV (w : Int) (h : Int), .bool true]) := fun h' => if_pos h'
  have HNo : Hid (¬ SetsN (w * h) l l.length → litOf w h l = .tuple #[boardV 0 0, .bool false]) := fun h' => if_neg h'
  have hin : Hid (∀ s, InS (w * h) s ↔ 0 ≤ s ∧ s ≤ ((2 ^ (w * h) : Nat) : Int) - 1) := fun s => Iff.rfl
  generalize litOf w h l = V at *
  generalize w * h = n at *
  generalize (2 ^ n : Nat) = P at *
  have n12 : (n : Int) ≤ 12 := by omega
  clear hr
  go_enter Tryz.func80, Tryz.ntmps80
  go_wp2_with fail
  refine (HB.out _).mono ?_
  rintro e w1' ⟨rfl, hb1⟩
  have box1 := (box0.then hb1).alloc (.cells #[.int .i64 (w : Int), .int .i64 (h : Int)] 40)
  have boxb := Box.new w1' 40 #[.int .i64 (w : Int), .int .i64 (h : Int)]
  have hb1 : Below W.heap.size W w1' := below_then ((Below.refl _ _).alloc (Nat.le_refl _) _) (by simp) hb1
  go_wp2_with fail
  refine (HZ.out _).mono ?_
  rintro e w2 ⟨rfl, hb2⟩
  have box2 := box1.then hb2
  have boxb2 := boxb.then hb2
  have zb1 := hb1.size
  have hb2 := below_then (hb1.alloc hb1.size _) (by have := hb1.size; simp; omega) hb2
  obtain ⟨gb, hgb⟩ : ∃ gb, w1'.heap.size = gb := ⟨_, rfl⟩
  rw [hgb] at boxb2 zb1 ⊢
  clear hb1 box0 box1 boxb HB hgb
  have zb2 : W.heap.size < gb := by
    rcases Nat.lt_or_ge W.heap.size gb with h' | h'
    · exact h'
    · have e : gb = W.heap.size := by omega
      subst e
      have := box2.symm.trans boxb2
      simp at this
      omega
  go_wp2_with fail
  go_loopw [28] (fun i wr => ∃ k : Nat, k ≤ l.length ∧ i = .int .i64 (k : Int) ∧ SetsN n l k ∧ Below W.heap.size W wr ∧ Box wr W.heap.size 40 #[.int .i64 0, .int .i64 0] ∧ Box wr gb 40 #[.int .i64 (w : Int), .int .i64 (h : Int)]) (fun i _ => l.length - (intOf i).toNat)
  case atStart => exact ⟨0, Nat.zero_le _, rfl, fun i hi => absurd hi (by omega), hb2, box2, boxb2⟩
  case round =>
    obtain ⟨k, hk, rfl, hS, hb, bx, bxb⟩ := hrel
    obtain ⟨wo, rfl⟩ : ∃ wo : World, wo = wr := ⟨_, rfl⟩
    have zo := hb.size
    have b0 := bxb.cell 0
    have b1 := bxb.cell 1
    by_cases hlt : k < l.length
    · obtain ⟨ad, rfl, hck⟩ := (HR.out.below hb).int (k := k) hlt
      have HSk : Hid (InS n (l[k]?.getD 0) → SetsN n l (k + 1)) := fun h' i hi => by
        by_cases e : i = k
        · subst e; exact h'
        · exact hS i (by omega)
      have HSn : Hid (¬ InS n (l[k]?.getD 0) → ¬ SetsN n l l.length) := fun h' hs => h' (hs k hlt)
      generalize l[k]?.getD 0 = x at *
      have k0 : (0 : Int) ≤ (k : Int) := by omega
      have k1 : (k : Int) < (l.length : Int) := by omega
      have HS := hide hS
      clear hS
      by_cases x0 : x < 0
      · have hV := HNo.out (HSn.out (fun h' => by have := (hin.out x).1 h'; omega))
        obtain ⟨c1, c2, c3, c4, c5, c6, c7⟩ := boardEndL (u := .int .i64 0) (v := .int .i64 0) bx
        go_wp2_with fail
        refine bodyPost_ret (v := .tuple #[boardV 0 0, .bool false]) (by simp [results, Tryz.results80, go_sem, c6, c7]) rfl ⟨by rw [hV], ?_⟩
        exact (hb.setCell (Nat.le_refl _) _).setCell (Nat.le_refl _) _
      · have x0' : 0 ≤ x := by omega
        by_cases xP : x ≤ (P : Int) - 1
        · have HT := hide (HSk.out ((hin.out x).2 ⟨x0', xP⟩))
          go_wp2_with fail
          refine (HZ.out _).mono ?_
          rintro e w3 ⟨rfl, hb3⟩
          go_wp2_with fail
          refine (HF.out _).mono ?_
          rintro e w4 ⟨rfl, rfl⟩
          have bx3 := bx.then hb3
          have bxb3 := bxb.then hb3
          have hb3 := below_then hb hb.size hb3
          go_wp2_with fail
          exact ⟨⟨k + 1, hlt, by go_num, HT.out, hb3, bx3, bxb3⟩, by simp [intOf]; omega⟩
        · have hV := HNo.out (HSn.out (fun h' => by have := (hin.out x).1 h'; omega))
          go_wp2_with fail
          refine (HZ.out _).mono ?_
          rintro e w3 ⟨rfl, hb3⟩
          go_wp2_with fail
          refine (HF.out _).mono ?_
          rintro e w4 ⟨rfl, rfl⟩
          obtain ⟨c1, c2, c3, c4, c5, c6, c7⟩ := boardEndL (u := .int .i64 0) (v := .int .i64 0) (bx.then hb3)
          have hb3 := below_then hb hb.size hb3
          go_wp2_with fail
          refine bodyPost_ret (v := .tuple #[boardV 0 0, .bool false]) (by simp [results, Tryz.results80, go_sem, c6, c7]) rfl ⟨by rw [hV], ?_⟩
          exact (hb3.setCell (Nat.le_refl _) _).setCell (Nat.le_refl _) _
    · obtain rfl : k = l.length := by omega
      have hV := HY.out hS
      obtain ⟨c1, c2, c3, c4, c5, c6, c7⟩ := boardEndL (u := .int .i64 (w : Int)) (v := .int .i64 (h : Int)) bx
      go_wp2_with fail
      refine bodyPost_ret (v := .tuple #[boardV (w : Int) (h : Int), .bool true]) (by simp [results, Tryz.results80, go_sem, c6, c7]) rfl ⟨by rw [hV], ?_⟩
      exact (hb.setCell (Nat.le_refl _) _).setCell (Nat.le_refl _) _

theorem addedL_c (a b : Nat) (ha : a < 4096) (hb : b < 4096) (W : World) : Calls Tryz.prog 136 #[.int .i64 (a : Int), .int .i64 (b : Int)] W fun e w' => e = .returned (.int .i64 ((a ^^^ b : Nat) : Int)) ∧ W = w' := by
  have e1 := xor64 a b (by omega) (by omega)
  go_enter Tryz.func136, Tryz.ntmps136
  go_wp2_with fail
  go_ret
  exact ⟨rfl, rfl⟩
theorem addedP_c (a b : Nat) (ha : a < 4096) (hb : b < 4096) (W : World) : Calls Tryz.prog 83 #[.int .i64 (a : Int), .int .i64 (b : Int)] W fun e w' => e = .returned (.int .i64 ((a ^^^ b : Nat) : Int)) ∧ W = w' := by
  have e1 := xor64 a b (by omega) (by omega)
  go_enter Tryz.func83, Tryz.ntmps83
  go_wp2_with fail
  go_ret
  exact ⟨rfl, rfl⟩

/-- Whether a press of one cell turns another. -/
def nearB (w h p q : Nat) : Bool := q == p || (cellsP (w : Int) (h : Int) false [] (p : Int) straight).contains (q : Int)
set_option maxHeartbeats 1000000 in
set_option maxRecDepth 100000 in
theorem effectOf_c (w h p q : Nat) (W : World) (hw : 1 ≤ w ∧ w ≤ 5) (hh : 1 ≤ h ∧ h ≤ 5) (hp : p < w * h) :
    Calls Tryz.prog 135 #[boardV (w : Int) (h : Int), .int .i64 (p : Int), .int .i64 (q : Int)] W (Plain (.int .i64 (if nearB w h p q then 1 else 0)) W) := by
  by_cases hpq : q = p
  · have he : (if nearB w h p q then (1 : Int) else 0) = 1 := by unfold nearB; rw [hpq]; simp
    rw [he]
    subst hpq
    have hqq : ((q : Int) == (q : Int)) = true := by simp
    clear he
    go_enter Tryz.func135, Tryz.ntmps135
    go_wp2_with fail
    go_quiet (fail)
    go_wp2
    go_ret
    exact ⟨rfl, below_drewN ((Below.refl _ _).alloc (Nat.le_refl _) _) _⟩
  · have he : nearB w h p q = (reachP (w : Int) (h : Int) false [] (p : Int) straight).contains (q : Int) := by
      unfold nearB
      rw [beq_eq_false_iff_ne.2 hpq, Bool.false_or, Bool.eq_iff_iff, List.contains_iff_mem, List.contains_iff_mem]
      exact (List.mergeSort_perm _ _).mem_iff.symm
    rw [he]
    have hne : ((q : Int) == (p : Int)) = false := by rw [beq_eq_false_iff_ne]; omega
    have HR := hide (fun (g : Nat) (w5 : World) (hr : Row w5 (some ⟨g, 0, none⟩) [.int .i64 (-1), .int .i64 0, .int .i64 0, .int .i64 (-1), .int .i64 0, .int .i64 1, .int .i64 1, .int .i64 0]) => show Calls Tryz.prog 120 #[boardV (w : Int) (h : Int), .iface 178 (.agg #[.slice (some ⟨g, 0, none⟩) 4 4]), .int .i64 (p : Int), .slice none 0 0] w5 (Owns 3 1 (reachP (w : Int) (h : Int) false [] (p : Int) straight).length (ints (reachP (w : Int) (h : Int) false [] (p : Int) straight)) w5) from reach_near (w : Int) (h : Int) (p : Int) g none 4 0 straight [] w5 (by omega) (by omega) (by omega) (by omega) (by omega) (by rw [← Int.natCast_mul]; omega) (hide (by decide)) (by decide) hr (Row.empty _ _) (fun _ e => by cases e) (by simp [maxLen]))
    have hlen : (reachP (w : Int) (h : Int) false [] (p : Int) straight).length ≤ maxLen := by
      have := reach_len (w : Int) (h : Int) false [] (p : Int) straight
      rw [show straight.length = 4 from rfl] at this
      unfold maxLen
      omega
    have HC := hide (fun (O : Option Addr) (oc : Nat) (w5 : World) (hr : Row w5 O (ints (reachP (w : Int) (h : Int) false [] (p : Int) straight))) (hf : Flat O) => contains_c O (reachP (w : Int) (h : Int) false [] (p : Int) straight) oc (q : Int) w5 hr hf hlen)
    have HST := hide (fun w5 => straight_c w5)
    have bx0 := Box.new W 40 #[.int .i64 (w : Int), .int .i64 (h : Int)]
    generalize reachP (w : Int) (h : Int) false [] (p : Int) straight = L at *
    clear he hpq
    obtain ⟨V, hV⟩ : ∃ V : Int, (if L.contains (q : Int) = true then (1 : Int) else 0) = V := ⟨_, rfl⟩
    rw [hV]
    have HV := hide hV
    clear hV
    generalize L.contains (q : Int) = bb at *
    go_enter Tryz.func135, Tryz.ntmps135
    go_wp2_with fail
    have hbd : Below W.heap.size W (W.alloc (.cells #[.int .i64 (w : Int), .int .i64 (h : Int)] 40)).drew := ((Below.refl _ _).alloc (Nat.le_refl _) _).drew
    have bxd : Box (W.alloc (.cells #[.int .i64 (w : Int), .int .i64 (h : Int)] 40)).drew W.heap.size 40 #[.int .i64 (w : Int), .int .i64 (h : Int)] := bx0
    have k0 := bxd.cell 0
    have k1 := bxd.cell 1
    go_region_held3 (fun w' => w'.cell? ⟨W.heap.size, 0, none⟩ = some (.int .i64 (w : Int)) ∧ w'.cell? ⟨W.heap.size, 1, none⟩ = some (.int .i64 (h : Int))) (go_keep)
      (first
        | (go_at_call 114; refine (HST.out _).mono ?_
           rintro e w1 ⟨rfl, rfl⟩
           have hr1 := hide (row_new (W.alloc (.cells #[.int .i64 (w : Int), .int .i64 (h : Int)] 40)).drew #[.int .i64 (-1), .int .i64 0, .int .i64 0, .int .i64 (-1), .int .i64 0, .int .i64 1, .int .i64 1, .int .i64 0] 181 (n := W.heap.size + 1) (by simp))
           have bx1 := bxd.alloc (.cells #[.int .i64 (-1), .int .i64 0, .int .i64 0, .int .i64 (-1), .int .i64 0, .int .i64 1, .int .i64 1, .int .i64 0] 181)
           have k10 := bx1.cell 0
           have k11 := bx1.cell 1
           have hb1 := hbd.alloc hbd.size (.cells #[.int .i64 (-1), .int .i64 0, .int .i64 0, .int .i64 (-1), .int .i64 0, .int .i64 1, .int .i64 1, .int .i64 0] 181))
        | (go_at_call 120; refine (HR.out _ _ hr1.out).mono ?_
           rintro e w2 ⟨v2, rfl, o2, b2⟩
           have bx2 := bx1.then b2
           have k20 := bx2.cell 0
           have k21 := bx2.cell 1
           have hb2 := below_then hb1 hb1.size b2
           obtain ⟨A2, c2, rfl, _, _, r2, hf2⟩ := own_row o2
           have r2 := hide r2
           have hf2 := hide (show Flat A2 from fun ad e => by obtain ⟨g, rfl, _⟩ := hf2 ad e; exact ⟨_, _, rfl⟩)
           clear o2 b2)
        | (go_at_call 145; refine (HC.out _ _ _ r2.out hf2.out).mono ?_
           rintro e w3 ⟨rfl, b3⟩
           have bx3 := bx2.then b3
           have k30 := bx3.cell 0
           have k31 := bx3.cell 1
           have hb3 := below_then hb2 hb2.size b3
           clear b3)
        | fail)
    cases bb with
    | true =>
      go_wp2_with fail
      go_ret
      exact ⟨by rw [← HV.out]; rfl, hb3⟩
    | false =>
      go_wp2_with fail
      go_ret
      exact ⟨by rw [← HV.out]; rfl, hb3⟩
end Go.Proofs.YtmfdlijkpdgimaaGreatDoor

/-
  The program's lights: rows of presses and lights in memory; pressRows.
-/
namespace Go.Proofs.YtmfdlijkpdgimaaGreatDoor
open Go.RowKit
set_option linter.unusedVariables false

/-- Rows of two sets, one after the other, as cells. -/
def cells2 (R : List Row2) : List Value := R.flatMap fun p => [.int .i64 ((p.1 : Nat) : Int), .int .i64 ((p.2 : Nat) : Int)]
theorem cells2_cons (p : Row2) (R : List Row2) : cells2 (p :: R) = .int .i64 ((p.1 : Nat) : Int) :: .int .i64 ((p.2 : Nat) : Int) :: cells2 R := rfl
theorem cells2_len (R : List Row2) : (cells2 R).length = R.length * 2 := by
  induction R with
  | nil => rfl
  | cons p R ih => rw [cells2_cons, List.length_cons, List.length_cons, ih, List.length_cons]; omega
theorem cells2_app (R T : List Row2) : cells2 (R ++ T) = cells2 R ++ cells2 T := by simp [cells2]
theorem cells2_one (R : List Row2) : ∀ u ∈ cells2 R, u.oneCell' = true := by
  intro u hu
  simp only [cells2, List.mem_flatMap, List.mem_cons, List.not_mem_nil, or_false] at hu
  obtain ⟨p, _, rfl | rfl⟩ := hu <;> rfl
theorem cells2_at : ∀ (R : List Row2) (k : Nat), k < R.length → (cells2 R)[k * 2]? = some (.int .i64 (((R[k]?.getD (0, 0)).1 : Nat) : Int)) ∧ (cells2 R)[k * 2 + 1]? = some (.int .i64 (((R[k]?.getD (0, 0)).2 : Nat) : Int))
  | [], k, h => absurd h (by simp)
  | p :: R, 0, _ => by rw [cells2_cons]; simp
  | p :: R, k + 1, h => by
    have ih := cells2_at R k (by simpa using h)
    rw [cells2_cons, show (k + 1) * 2 = k * 2 + 1 + 1 by omega]
    simpa using ih
theorem cells2_set1 : ∀ (R : List Row2) (k : Nat), k < R.length → ∀ a : Nat, (cells2 R).set (k * 2) (.int .i64 (a : Int)) = cells2 (R.set k (a, (R[k]?.getD (0, 0)).2))
  | [], k, h, _ => absurd h (by simp)
  | p :: R, 0, _, a => by simp [cells2_cons]
  | p :: R, k + 1, h, a => by
    have ih := cells2_set1 R k (by simpa using h) a
    rw [cells2_cons, show (k + 1) * 2 = k * 2 + 1 + 1 by omega, List.set_cons_succ, List.set_cons_succ, ih]
    simp [cells2_cons]
theorem cells2_set2 : ∀ (R : List Row2) (k : Nat), k < R.length → ∀ a : Nat, (cells2 R).set (k * 2 + 1) (.int .i64 (a : Int)) = cells2 (R.set k ((R[k]?.getD (0, 0)).1, a))
  | [], k, h, _ => absurd h (by simp)
  | p :: R, 0, _, a => by simp [cells2_cons]
  | p :: R, k + 1, h, a => by
    have ih := cells2_set2 R k (by simpa using h) a
    rw [cells2_cons, show (k + 1) * 2 + 1 = k * 2 + 1 + 1 + 1 by omega, List.set_cons_succ, List.set_cons_succ, ih]
    simp [cells2_cons]
theorem cells2_made (n : Nat) : (madeCells #[Value.int .i64 0, Value.int .i64 0] (n * 2)).toList = cells2 (List.replicate n (0, 0)) := by
  have h1 : (madeCells #[Value.int .i64 0, Value.int .i64 0] (n * 2)).toList = List.replicate (n * 2) (Value.int .i64 0) := by
    rw [List.eq_replicate_iff]
    refine ⟨by simp [madeCells], fun b hb => ?_⟩
    simp only [madeCells, Array.toList_map, List.mem_map] at hb
    obtain ⟨i, _, rfl⟩ := hb
    rcases Nat.mod_two_eq_zero_or_one i with e | e <;> simp [e]
  have h2 : ∀ n : Nat, cells2 (List.replicate n (0, 0)) = List.replicate (n * 2) (Value.int .i64 0) := fun n => by
    induction n with
    | zero => rfl
    | succ n ih => rw [List.replicate_succ, cells2_cons, ih, show (n + 1) * 2 = n * 2 + 1 + 1 by omega]; rfl
  rw [h1, h2]
theorem own_row2 {W : World} {base g n c : Nat} {e : TypeId} {R : List Row2} (h : W.ownsRow base e 2 (.slice (some ⟨g, 0, none⟩) n c) n (cells2 R)) {k : Nat} (hk : k < n) :
    (W.cell? ⟨g, k * 2, none⟩ = some (.int .i64 (((R[k]?.getD (0, 0)).1 : Nat) : Int)) ∧ W.frozen? ⟨g, k * 2, none⟩ = false ∧ W.cell? ⟨g, k * 2 + 1, none⟩ = some (.int .i64 (((R[k]?.getD (0, 0)).2 : Nat) : Int)) ∧ W.frozen? ⟨g, k * 2 + 1, none⟩ = false) ∧
    (∀ a : Nat, (W.setCell ⟨g, k * 2, none⟩ (.int .i64 (a : Int))).ownsRow base e 2 (.slice (some ⟨g, 0, none⟩) n c) n (cells2 (R.set k (a, (R[k]?.getD (0, 0)).2))) ∧ W.grownBy (W.setCell ⟨g, k * 2, none⟩ (.int .i64 (a : Int))) (some g)) ∧
    (∀ a : Nat, (W.setCell ⟨g, k * 2 + 1, none⟩ (.int .i64 (a : Int))).ownsRow base e 2 (.slice (some ⟨g, 0, none⟩) n c) n (cells2 (R.set k ((R[k]?.getD (0, 0)).1, a))) ∧ W.grownBy (W.setCell ⟨g, k * 2 + 1, none⟩ (.int .i64 (a : Int))) (some g)) := by
  have hl : R.length = n := by have := h.1; rw [cells2_len] at this; omega
  obtain ⟨a1, a2⟩ := cells2_at R k (by omega)
  refine ⟨⟨(h.cellAt (k * 2) (by omega)).trans a1, h.frozenAt _, (h.cellAt (k * 2 + 1) (by omega)).trans a2, h.frozenAt _⟩, fun a => ?_, fun a => ?_⟩
  · obtain ⟨o, gr⟩ := h.stored (k * 2) (.int .i64 (a : Int))
    rw [cells2_set1 R k (by omega)] at o
    exact ⟨o, gr⟩
  · obtain ⟨o, gr⟩ := h.stored (k * 2 + 1) (.int .i64 (a : Int))
    rw [cells2_set2 R k (by omega)] at o
    exact ⟨o, gr⟩
theorem Row.row2 {w : World} {g : Nat} {R : List Row2} (h : Row w (some ⟨g, 0, none⟩) (cells2 R)) {k : Nat} (hk : k < R.length) :
    w.cell? ⟨g, k * 2, none⟩ = some (.int .i64 (((R[k]?.getD (0, 0)).1 : Nat) : Int)) ∧ w.cell? ⟨g, k * 2 + 1, none⟩ = some (.int .i64 (((R[k]?.getD (0, 0)).2 : Nat) : Int)) := by
  obtain ⟨e1, e2⟩ := cells2_at R k hk
  obtain ⟨l1, f1⟩ := List.getElem?_eq_some_iff.1 e1
  obtain ⟨l2, f2⟩ := List.getElem?_eq_some_iff.1 e2
  obtain ⟨_, ⟨rfl⟩, hc⟩ := h _ l1
  obtain ⟨_, ⟨rfl⟩, hc2⟩ := h _ l2
  rw [add0] at hc hc2
  exact ⟨by rw [hc, f1], by rw [hc2, f2]⟩

/-- What the first j cells are turned by a press. -/
def turnToL (w h p : Nat) : Nat → Nat
  | 0 => 0
  | j + 1 => if nearB w h p j then turnToL w h p j ||| 2 ^ j else turnToL w h p j
theorem turn_lt (w h p : Nat) : ∀ j, turnToL w h p j < 2 ^ j
  | 0 => by simp [turnToL]
  | j + 1 => by
    have ih := turn_lt w h p j
    have p2 : 2 ^ j < 2 ^ (j + 1) := Nat.pow_lt_pow_right (by omega) (by omega)
    simp only [turnToL]
    split
    · exact Nat.or_lt_two_pow (by omega) p2
    · omega
def turnOkL (w h : Nat) : Bool := (List.range (w * h)).all fun p => turnToL w h p (w * h) == (litL w h)[p]?.getD 0
theorem turn_okL : ∀ a : Fin 5, ∀ b : Fin 5, (a.val + 1) * (b.val + 1) ≤ 12 → turnOkL (a.val + 1) (b.val + 1) = true := by decide +kernel
theorem turn_is {w h : Nat} (hw : 1 ≤ w ∧ w ≤ 5) (hh : 1 ≤ h ∧ h ≤ 5) (h12 : w * h ≤ 12) {p : Nat} (hp : p < w * h) : turnToL w h p (w * h) = (litL w h)[p]?.getD 0 := by
  obtain ⟨a, rfl⟩ : ∃ a, w = a + 1 := ⟨w - 1, by omega⟩
  obtain ⟨b, rfl⟩ : ∃ b, h = b + 1 := ⟨h - 1, by omega⟩
  simpa using List.all_eq_true.1 (turn_okL ⟨a, by omega⟩ ⟨b, by omega⟩ h12) p (List.mem_range.2 hp)
def rowsAt (L : List Nat) (n k : Nat) : List Row2 := (List.range n).map fun i => if i < k then (2 ^ i, L[i]?.getD 0) else (0, 0)
theorem rowsAt_none (L : List Nat) (n : Nat) : rowsAt L n 0 = List.replicate n (0, 0) := by
  rw [List.eq_replicate_iff]
  refine ⟨by simp [rowsAt], fun b hb => ?_⟩
  simp only [rowsAt, List.mem_map] at hb
  obtain ⟨i, _, rfl⟩ := hb
  rw [if_neg (by omega)]
theorem rowsAt_all (L : List Nat) : rowsAt L L.length L.length = rowsP L := by
  unfold rowsAt rowsP
  exact List.map_congr_left fun i hi => by rw [if_pos (List.mem_range.1 hi)]
theorem rowsAt_at (L : List Nat) {n k : Nat} (hk : k < n) : (rowsAt L n k)[k]?.getD (0, 0) = (0, 0) := by
  unfold rowsAt
  rw [List.getElem?_map, List.getElem?_range hk]
  simp
theorem rowsAt_succ (L : List Nat) {n k : Nat} (hk : k < n) : (rowsAt L n k).set k (2 ^ k, L[k]?.getD 0) = rowsAt L n (k + 1) := by
  apply List.ext_getElem
  · simp [rowsAt]
  · intro i h1 h2
    rw [List.getElem_set]
    simp only [rowsAt, List.getElem_map, List.getElem_range]
    by_cases e : k = i
    · subst e
      rw [if_pos rfl, if_pos (by omega)]
    · rw [if_neg e]
      by_cases e2 : i < k
      · rw [if_pos e2, if_pos (by omega)]
      · rw [if_neg e2, if_neg (by omega)]
theorem rowsAt_set (L : List Nat) (n k : Nat) (a b : Row2) : ((rowsAt L n k).set k a).set k b = (rowsAt L n k).set k b := by simp
theorem rowsAt_get (L : List Nat) {n k : Nat} (hk : k < n) (a : Row2) : ((rowsAt L n k).set k a)[k]?.getD (0, 0) = a := by
  rw [List.getElem?_set_self (by simpa [rowsAt] using hk)]
  rfl

set_option maxHeartbeats 4000000 in
set_option maxRecDepth 100000 in
theorem pressRows_c (w h : Nat) (W : World) (hw : 1 ≤ w ∧ w ≤ 5) (hh : 1 ≤ h ∧ h ≤ 5) (h12 : w * h ≤ 12) :
    Calls Tryz.prog 105 #[boardV (w : Int) (h : Int)] W (Owns 138 2 (w * h) (cells2 (rowsP (litL w h))) W) := by
  have bx0 := Box.new W 40 #[.int .i64 (w : Int), .int .i64 (h : Int)]
  have hb0 : Below W.heap.size W (W.alloc (.cells #[.int .i64 (w : Int), .int .i64 (h : Int)] 40)) := (Below.refl _ _).alloc (Nat.le_refl _) _
  have HZ := hide (fun w6 => by
    have := size_c (w : Int) (h : Int) w6 (by omega) (by omega) (by omega) (by omega)
    rw [← Int.natCast_mul] at this
    exact this)
  have HE := hide (fun (p q : Nat) (hp : p < w * h) w6 => effectOf_c w h p q w6 hw hh hp)
  have HTI := hide (fun (p : Nat) (hp : p < w * h) => turn_is hw hh h12 hp)
  have HTL := hide (fun p j => turn_lt w h p j)
  have HT0 := hide (fun p => show turnToL w h p 0 = 0 from rfl)
  have HTS := hide (fun p j => show turnToL w h p (j + 1) = if nearB w h p j then turnToL w h p j ||| 2 ^ j else turnToL w h p j from rfl)
  have hlen := litL_len w h
  rw [← rowsAt_all, hlen]
  obtain ⟨i0, hi0, hz0, hz1, hz2⟩ := (show ∃ i, Tryz.prog.info? 138 = some i ∧ i.zero = some (.agg #[.int .i64 0, .int .i64 0]) ∧ i.size = 2 ∧ i.bytes = 16 from by
    have h : (Tryz.prog.info? 138).map (fun i => (i.zero, i.size, i.bytes)) = some (some (.agg #[.int .i64 0, .int .i64 0]), 2, 16) := by kernel_rfl
    cases hi : Tryz.prog.info? 138 with
    | none => simp [hi] at h
    | some i =>
      simp only [hi, Option.map_some, Option.some.injEq, Prod.mk.injEq] at h
      exact ⟨i, rfl, h.1, h.2.1, h.2.2⟩)
  generalize litL w h = L at *
  generalize nearB w h = near at *
  generalize turnToL w h = turn at *
  generalize hn : w * h = n at *
  clear hn hlen
  go_enter Tryz.func105, Tryz.ntmps105
  go_wp2_with fail
  refine (HZ.out _).mono ?_
  rintro e w1 ⟨rfl, b1⟩
  have bx1 := bx0.then b1
  have b1 := below_then hb0 hb0.size b1
  clear bx0 hb0
  go_wp2_with ((at_make; go_loud (refine wpList_make_full _ rfl (.tmp 7) (.tmp 7) 131 rfl w1.heap.size 138 i0 (.agg #[.int .i64 0, .int .i64 0]) 2 Tryz.underlying131 hi0 hz0 hz1 .i64 .i64 n n n rfl rfl rfl rfl (by rw [hz2]; omega) (by unfold maxLen; omega) (Nat.le_refl _) ?_; intro w2 own2 hg2; have own2 : w2.ownsRow w1.heap.size 138 2 (.slice (some ⟨w1.heap.size, 0, none⟩) n n) n (cells2 (rowsAt L n 0)) := (by rw [rowsAt_none, ← cells2_made]; exact own2); have bx2 := bx1.grown hg2 (fun e => by cases e); have b2 := b1.grown hg2 b1.size (fun k h => by cases h); clear hg2)))
  have z1 := b1.size
  have hne : W.heap.size < w1.heap.size := bx1.in_
  generalize w1.heap.size = g at *
  go_loopw [11] (fun i wr => ∃ k : Nat, k ≤ n ∧ i = .int .i64 (k : Int) ∧ wr.ownsRow g 138 2 (.slice (some ⟨g, 0, none⟩) n n) n (cells2 (rowsAt L n k)) ∧ Below W.heap.size W wr ∧ Box wr W.heap.size 40 #[.int .i64 (w : Int), .int .i64 (h : Int)]) (fun i _ => n - (intOf i).toNat)
  case atStart => exact ⟨0, Nat.zero_le _, rfl, own2, b2, bx2⟩
  case round =>
    clear own2 b2 bx2 bx1 b1
    obtain ⟨k, hk, rfl, own, hb, bx⟩ := hrel
    obtain ⟨wo, rfl⟩ : ∃ wo : World, wo = wr := ⟨_, rfl⟩
    by_cases hlt : k < n
    · obtain ⟨⟨c1, c2, -, -⟩, hst, -⟩ := own_row2 own (k := k) hlt
      obtain ⟨o3, g3⟩ := hst (2 ^ k)
      rw [rowsAt_at L hlt] at c1 o3
      simp only at c1 o3
      have es := shl64 k (by omega)
      have o3 : (wo.setCell ⟨g, k * 2, none⟩ (.int .i64 ((2 ^ k : Nat) : Int))).ownsRow g 138 2 (.slice (some ⟨g, 0, none⟩) n n) n (cells2 ((rowsAt L n k).set k (2 ^ k, turn k 0))) := by rw [HT0.out k]; exact o3
      have hb3 := hb.grown g3 hb.size (fun z e => by injection e with e; omega)
      have bx3 := bx.grown g3 (fun e => by injection e with e; omega)
      have HX := hide (HTI.out k hlt)
      have HTLk := hide (HTL.out k)
      have HTSk := hide (HTS.out k)
      have HEk := hide (fun q w6 => HE.out k q hlt w6)
      have HSU := hide (rowsAt_succ L hlt)
      have HGET := hide (fun a => rowsAt_get L hlt a)
      have k0 : (0 : Int) ≤ (k : Int) := by omega
      have k1 : (k : Int) < (n : Int) := by omega
      rw [← HX.out] at HSU
      generalize turn k = tk at *
      generalize near k = nk at *
      have O3 := hide o3
      clear hst own hb bx g3 o3
      generalize 2 ^ k = P at *
      go_wp2_with fail
      go_loopw [22] (fun i wi => ∃ j : Nat, j ≤ n ∧ i = .int .i64 (j : Int) ∧ wi.ownsRow g 138 2 (.slice (some ⟨g, 0, none⟩) n n) n (cells2 ((rowsAt L n k).set k (P, tk j))) ∧ Below W.heap.size W wi ∧ Box wi W.heap.size 40 #[.int .i64 (w : Int), .int .i64 (h : Int)]) (fun i _ => n - (intOf i).toNat)
      case atStart => exact ⟨0, Nat.zero_le _, rfl, O3.out, hb3, bx3⟩
      case round =>
        clear O3 hb3 bx3 c1 c2
        obtain ⟨j, hj, rfl, own, hb, bx⟩ := hrel
        obtain ⟨wi, rfl⟩ : ∃ wi : World, wi = wr := ⟨_, rfl⟩
        by_cases hjl : j < n
        · have b0 := bx.cell 0
          have b1 := bx.cell 1
          have hE := HEk.out j
          have hTS := HTSk.out j
          have hTL := HTLk.out j
          have p12 := pow12 (n := j) (by omega)
          have j0 : (0 : Int) ≤ (j : Int) := by omega
          have j1 : (j : Int) < (n : Int) := by omega
          cases hnk : nk j with
          | false =>
            rw [hnk] at hE hTS
            simp only [Bool.false_eq_true, if_false] at hE hTS
            have HEj := hide hE
            have HTj := hide hTS
            clear hE hTS hnk
            go_wp2_with fail
            refine (HEj.out _).mono ?_
            rintro e w5 ⟨rfl, b5⟩
            have own5 := own_below own b5
            have bx5 := bx.then b5
            have hb5 := below_then hb hb.size b5
            go_wp2_with fail
            exact ⟨⟨j + 1, hjl, by go_num, by rw [HTj.out]; exact own5, hb5, bx5⟩, by simp [intOf]; omega⟩
          | true =>
            rw [hnk] at hE hTS
            simp only [if_true] at hE hTS
            have HEj := hide hE
            have HTj := hide hTS
            clear hE hTS hnk
            go_wp2_with fail
            refine (HEj.out _).mono ?_
            rintro e w5 ⟨rfl, b5⟩
            have own5 := own_below own b5
            have bx5 := bx.then b5
            have hb5 := below_then hb hb.size b5
            clear own bx hb b5 b0 b1
            obtain ⟨⟨-, -, c3, c4⟩, -, -⟩ := own_row2 own5 (k := k) hlt
            rw [HGET.out] at c3
            simp only at c3
            have eo := or64 (tk j) (2 ^ j) (by omega) (by omega)
            have es' := shl64 j (by omega)
            have HST := hide (fun (wd : World) (ow : wd.ownsRow g 138 2 (.slice (some ⟨g, 0, none⟩) n n) n (cells2 ((rowsAt L n k).set k (P, tk j)))) => show (wd.setCell ⟨g, k * 2 + 1, none⟩ (.int .i64 ((tk j ||| 2 ^ j : Nat) : Int))).ownsRow g 138 2 (.slice (some ⟨g, 0, none⟩) n n) n (cells2 ((rowsAt L n k).set k (P, tk (j + 1)))) ∧ wd.grownBy (wd.setCell ⟨g, k * 2 + 1, none⟩ (.int .i64 ((tk j ||| 2 ^ j : Nat) : Int))) (some g) by
              have := ((own_row2 ow (k := k) hlt).2.2 (tk j ||| 2 ^ j))
              rw [HGET.out, rowsAt_set] at this
              rw [HTj.out]
              exact this)
            generalize hx : tk j = x at *
            generalize 2 ^ j = Pj at *
            generalize x ||| Pj = y at *
            go_wp2_with fail
            go_still_tail 10, (by kernel_rfl)
            have od := own5.drew
            have bd := hb5.drew
            have bxd : Box w5.drew W.heap.size 40 #[.int .i64 (w : Int), .int .i64 (h : Int)] := bx5
            have c3d : w5.drew.cell? ⟨g, k * 2 + 1, none⟩ = some (.int .i64 (x : Int)) := c3
            have c4d : w5.drew.frozen? ⟨g, k * 2 + 1, none⟩ = false := c4
            change wpList _ _ _ _ _ w5.drew
            clear own5 hb5 bx5 c3 c4
            generalize w5.drew = wd at *
            obtain ⟨d1, d2⟩ := HST.out wd od
            have D1 := hide d1
            have D2 := hide (bd.grown d2 bd.size (fun z e => by injection e with e; omega))
            have D3 := hide (bxd.grown d2 (fun e => by injection e with e; omega))
            clear d1 d2 od bd bxd HST
            go_wp2_with fail
            exact ⟨⟨j + 1, hjl, by go_num, D1.out, D2.out, D3.out⟩, by simp [intOf]; omega⟩
        · obtain rfl : j = n := by omega
          rw [HSU.out] at own
          have Y1 := hide own
          have Y2 := hide hb
          have Y3 := hide bx
          clear own hb bx
          go_wp2_with fail
          go_round
          case rel => exact ⟨k + 1, hlt, by go_num, Y1.out, Y2.out, Y3.out⟩
          case measure => simp [intOf]; omega
    · obtain rfl : k = n := by omega
      go_wp2_with fail
      go_ret
      exact ⟨_, rfl, own_mono own (by omega), hb⟩
end Go.Proofs.YtmfdlijkpdgimaaGreatDoor

/-
  The program's lights: PressAll, ChaseDown.
-/
namespace Go.Proofs.YtmfdlijkpdgimaaGreatDoor
open Go.RowKit
set_option linter.unusedVariables false

theorem litOf_yes {w h : Nat} {l : List Int} (hs : SetsN (w * h) l l.length) : litOf w h l = .tuple #[boardV (w : Int) (h : Int), .bool true] := if_pos hs
theorem litOf_no {w h : Nat} {l : List Int} (hs : ¬ SetsN (w * h) l l.length) : litOf w h l = .tuple #[boardV 0 0, .bool false] := if_neg hs
theorem inS_nat {n x : Nat} (h : x < 2 ^ n) : InS n (x : Int) := ⟨by omega, by omega⟩
theorem inS_lit {w h : Nat} {s : Int} (hw : 1 ≤ w ∧ w ≤ 5) (hh : 1 ≤ h ∧ h ≤ 5) (h12 : w * h ≤ 12) : LitS (w : Int) (h : Int) s ↔ InS (w * h) s := by
  unfold LitS InS
  rw [← Int.natCast_mul, Int.toNat_natCast]
  exact ⟨fun h' => h'.2, fun h' => ⟨lit12N hw hh h12, h'⟩⟩
/-- litBoard, of whatever sets. -/
theorem litBoard_c (bc br : Int) (A : Option Addr) (c : Nat) (l : List Int) (W : World) (hr : Row W A (ints l)) (hm : l.length ≤ 1000) :
    (∃ w h : Nat, bc = (w : Int) ∧ br = (h : Int) ∧ (1 ≤ w ∧ w ≤ 5) ∧ (1 ≤ h ∧ h ≤ 5) ∧ w * h ≤ 12 ∧ SetsN (w * h) l l.length ∧ Calls Tryz.prog 80 #[.int .i64 bc, .int .i64 br, .slice A l.length c] W (Plain (.tuple #[boardV (w : Int) (h : Int), .bool true]) W)) ∨
    ((¬ ∀ i, i < l.length → LitS bc br (l[i]?.getD 0)) ∨ ¬ Lit12 bc br) ∧ Calls Tryz.prog 80 #[.int .i64 bc, .int .i64 br, .slice A l.length c] W (Plain (.tuple #[boardV 0 0, .bool false]) W) := by
  by_cases hB : Brd bc br
  · by_cases h12 : bc * br ≤ 12
    · obtain ⟨h1, h2, h3, h4⟩ := hB
      obtain ⟨w, rfl⟩ := Int.eq_ofNat_of_zero_le (show 0 ≤ bc by omega)
      obtain ⟨h, rfl⟩ := Int.eq_ofNat_of_zero_le (show 0 ≤ br by omega)
      have h12' : w * h ≤ 12 := by rw [← Int.natCast_mul] at h12; omega
      have := litBoard_yes w h A c l W hr (by omega) (by omega) h12' hm
      by_cases hs : SetsN (w * h) l l.length
      · rw [litOf_yes hs] at this
        exact .inl ⟨w, h, rfl, rfl, by omega, by omega, h12', hs, this⟩
      · rw [litOf_no hs] at this
        exact .inr ⟨.inl fun h' => hs fun i hi => (inS_lit (by omega) (by omega) h12').1 (h' i hi), this⟩
    · exact .inr ⟨.inr fun h => h12 h.2, litBoard_no2 bc br A l.length c W hB h12⟩
  · exact .inr ⟨.inr fun h => hB h.1, litBoard_no1 bc br A l.length c W hB⟩

theorem rowsP_at (L : List Nat) {k : Nat} (hk : k < L.length) : (rowsP L)[k]?.getD (0, 0) = (2 ^ k, L[k]?.getD 0) := by
  unfold rowsP
  rw [List.getElem?_map, List.getElem?_range hk]
  rfl
theorem rowsP_len (L : List Nat) : (rowsP L).length = L.length := by simp [rowsP]

theorem or_plus {a k : Nat} (h : a < 2 ^ k) : a ||| 2 ^ k = a + 2 ^ k := by
  have := Nat.two_pow_add_eq_or_of_lt h 1
  rw [Nat.mul_one] at this
  rw [Nat.or_comm, ← this, Nat.add_comm]
end Go.Proofs.YtmfdlijkpdgimaaGreatDoor

/-
  The program's lights: plus, less, leadRows.
-/
namespace Go.Proofs.YtmfdlijkpdgimaaGreatDoor
open Go.RowKit
set_option linter.unusedVariables false

abbrev row2V (p : Row2) : Value := .agg #[.int .i64 ((p.1 : Nat) : Int), .int .i64 ((p.2 : Nat) : Int)]
abbrev row2A (p : Row2) : Array Value := #[.int .i64 ((p.1 : Nat) : Int), .int .i64 ((p.2 : Nat) : Int)]
/-- Two cells stored, one after the other. -/
theorem end2 {w : World} {g : Nat} {t : TypeId} {x y : Value} (h : Box w g t #[x, y]) (u v : Value) :
    w.cell? ⟨g, 0, none⟩ = some x ∧ w.frozen? ⟨g, 0, none⟩ = false ∧ (w.setCell ⟨g, 0, none⟩ u).cell? ⟨g, 1, none⟩ = some y ∧ (w.setCell ⟨g, 0, none⟩ u).frozen? ⟨g, 1, none⟩ = false ∧
    ((w.setCell ⟨g, 0, none⟩ u).setCell ⟨g, 1, none⟩ v).cell? ⟨g, 0, none⟩ = some u ∧ ((w.setCell ⟨g, 0, none⟩ u).setCell ⟨g, 1, none⟩ v).cell? ⟨g, 1, none⟩ = some v ∧ Box ((w.setCell ⟨g, 0, none⟩ u).setCell ⟨g, 1, none⟩ v) g t #[u, v] :=
  ⟨h.cell 0, h.free 0, (h.set 0 u).cell 1, (h.set 0 u).free 1, ((h.set 0 u).set 1 v).cell 0, ((h.set 0 u).set 1 v).cell 1, (h.set 0 u).set 1 v⟩

set_option maxHeartbeats 1000000 in
set_option maxRecDepth 100000 in
theorem plus_c (a b : Row2) (ha : a.1 < 4096 ∧ a.2 < 4096) (hb : b.1 < 4096 ∧ b.2 < 4096) (W : World) : Calls Tryz.prog 106 #[row2V a, row2V b] W (Plain (row2V (plus2 a b)) W) := by
  obtain ⟨a1, a2⟩ := a
  obtain ⟨b1, b2⟩ := b
  have HL := hide (fun w5 => addedL_c a2 b2 ha.2 hb.2 w5)
  have HP := hide (fun w5 => addedP_c a1 b1 ha.1 hb.1 w5)
  show Calls Tryz.prog 106 #[.agg #[.int .i64 (a1 : Int), .int .i64 (a2 : Int)], .agg #[.int .i64 (b1 : Int), .int .i64 (b2 : Int)]] W (Plain (.agg #[.int .i64 ((a1 ^^^ b1 : Nat) : Int), .int .i64 ((a2 ^^^ b2 : Nat) : Int)]) W)
  generalize a1 ^^^ b1 = c1 at *
  generalize a2 ^^^ b2 = c2 at *
  clear ha hb
  have bx0 := ((Box.new W 138 #[.int .i64 (a1 : Int), .int .i64 (a2 : Int)]).alloc (.cells #[.int .i64 (b1 : Int), .int .i64 (b2 : Int)] 138)).alloc (.cells #[.int .i64 0, .int .i64 0] 138)
  have bx1 := (Box.new (W.alloc (.cells #[.int .i64 (a1 : Int), .int .i64 (a2 : Int)] 138)) 138 #[.int .i64 (b1 : Int), .int .i64 (b2 : Int)]).alloc (.cells #[.int .i64 0, .int .i64 0] 138)
  have bx2 := Box.new ((W.alloc (.cells #[.int .i64 (a1 : Int), .int .i64 (a2 : Int)] 138)).alloc (.cells #[.int .i64 (b1 : Int), .int .i64 (b2 : Int)] 138)) 138 #[.int .i64 0, .int .i64 0]
  simp only [World.size_alloc] at bx1 bx2
  have hb : Below W.heap.size W (((W.alloc (.cells #[.int .i64 (a1 : Int), .int .i64 (a2 : Int)] 138)).alloc (.cells #[.int .i64 (b1 : Int), .int .i64 (b2 : Int)] 138)).alloc (.cells #[.int .i64 0, .int .i64 0] 138)) := (((Below.refl _ _).alloc (Nat.le_refl _) _).alloc (by simp) _).alloc (by simp; omega) _
  go_enter Tryz.func106, Tryz.ntmps106
  go_wp2_with fail
  have hsz : W.heap.size + 1 + 1 = W.heap.size + 2 := rfl
  have zW : (((W.alloc (.cells #[.int .i64 (a1 : Int), .int .i64 (a2 : Int)] 138)).alloc (.cells #[.int .i64 (b1 : Int), .int .i64 (b2 : Int)] 138)).alloc (.cells #[.int .i64 0, .int .i64 0] 138)).heap.size = W.heap.size + 3 := by simp
  generalize (((W.alloc (.cells #[.int .i64 (a1 : Int), .int .i64 (a2 : Int)] 138)).alloc (.cells #[.int .i64 (b1 : Int), .int .i64 (b2 : Int)] 138)).alloc (.cells #[.int .i64 0, .int .i64 0] 138)) = wo at *
  have k0 := bx0.cell 0
  have k1 := bx0.cell 1
  have k2 := bx1.cell 0
  have k3 := bx1.cell 1
  refine wp_region_still_tail 11 (by kernel_rfl) (by kernel_rfl) ?_
  simp only [List.take_succ_cons, List.take_zero, List.drop_succ_cons, List.drop_zero]
  repeat still_step
  still_call ((HP.out _).mono (fun _ _ h => ⟨h.1, h.2.symm⟩))
  repeat still_step
  still_call ((HL.out _).mono (fun _ _ h => ⟨h.1, h.2.symm⟩))
  repeat still_step
  try refine wpStill_nil ?_
  have bx2d : Box wo.drew (W.heap.size + 1 + 1) 138 #[.int .i64 0, .int .i64 0] := bx2
  have hbd := hb.drew
  change wpList _ _ _ _ _ wo.drew
  clear bx0 bx1 bx2 hb k0 k1 k2 k3
  generalize wo.drew = wd at *
  obtain ⟨d1, d2, d3, d4, d5, d6, _⟩ := end2 bx2d (.int .i64 (c1 : Int)) (.int .i64 (c2 : Int))
  go_wp2_with fail
  refine bodyPost_ret (v := .agg #[.int .i64 (c1 : Int), .int .i64 (c2 : Int)]) (by simp [results, Tryz.results106, go_sem, d5, d6]) rfl ⟨rfl, ?_⟩
  exact (hbd.setCell (by simp) _).setCell (by simp) _

set_option maxHeartbeats 2000000 in
set_option maxRecDepth 100000 in
theorem less_c (A : Option Addr) (c : Nat) (M : List Row2) (r : Row2) (W : World) (hr : Row W A (cells2 M)) (hA : M.length ≠ 0 → ∃ g, A = some ⟨g, 0, none⟩) (hM : ∀ k : Nat, (M[k]?.getD (0, 0)).1 < 2 ^ 12 ∧ (M[k]?.getD (0, 0)).2 < 2 ^ 12) (hl : M.length ≤ 1000) (hrb : r.1 < 2 ^ 12 ∧ r.2 < 2 ^ 12) :
    Calls Tryz.prog 82 #[row2V r, .slice A M.length c] W (Plain (row2V (lessP M r)) W) := by
  have HR := hide hr
  have HM := hide hM
  have HB := hide (fun k => less_lt hM hrb k)
  have H0 := hide (show lessTo M r 0 = r from rfl)
  have HS := hide (fun k => show lessTo M r (k + 1) = if (lessTo M r k).2 &&& lowS (M[k]?.getD (0, 0)).2 = 0 then lessTo M r k else plus2 (lessTo M r k) (M[k]?.getD (0, 0)) from rfl)
  have HE : Hid (lessP M r = lessTo M r M.length) := rfl
  have HA := hide hA
  have bx0 := (Box.new W 138 (row2A r)).alloc (.cells #[.int .i64 0, .int .i64 0] 138)
  have bx1 := Box.new (W.alloc (.cells (row2A r) 138)) 138 #[.int .i64 0, .int .i64 0]
  simp only [World.size_alloc] at bx1
  have hb0 : Below W.heap.size W ((W.alloc (.cells (row2A r) 138)).alloc (.cells #[.int .i64 0, .int .i64 0] 138)) := ((Below.refl _ _).alloc (Nat.le_refl _) _).alloc (by simp) _
  clear hr hM hA hrb
  generalize lessP M r = fin at *
  obtain ⟨r1, r2⟩ := r
  go_enter Tryz.func82, Tryz.ntmps82
  go_wp2_with fail
  go_loopw [10] (fun i wr => ∃ k : Nat, k ≤ M.length ∧ i = .int .i64 (k : Int) ∧ Below W.heap.size W wr ∧ Box wr W.heap.size 138 (row2A (lessTo M (r1, r2) k)) ∧ Box wr (W.heap.size + 1) 138 #[.int .i64 0, .int .i64 0]) (fun i _ => M.length - (intOf i).toNat)
  case atStart => exact ⟨0, Nat.zero_le _, rfl, hb0, by rw [H0.out]; exact bx0, bx1⟩
  case round =>
    clear bx0 bx1 hb0
    obtain ⟨k, hk, rfl, hb, bx, bxr⟩ := hrel
    obtain ⟨wo, rfl⟩ : ∃ wo : World, wo = wr := ⟨_, rfl⟩
    have zo := bxr.in_
    have hSk := HS.out k
    obtain ⟨zb1, zb2⟩ := HB.out k
    by_cases hlt : k < M.length
    · obtain ⟨g, rfl⟩ := HA.out (by omega)
      obtain ⟨q1, q2⟩ := Row.row2 (HR.out.below hb) (k := k) hlt
      obtain ⟨yb1, yb2⟩ := HM.out k
      generalize hz : lessTo M (r1, r2) k = z at *
      generalize hy : M[k]?.getD (0, 0) = y at *
      obtain ⟨z1, z2⟩ := z
      obtain ⟨y1, y2⟩ := y
      simp only at q1 q2 zb1 zb2 yb1 yb2 hSk
      have en := neg64 y2 (by omega)
      have ew : IntKind.i64.wrap (-(y2 : Int)) = -(y2 : Int) := IntWalk.i64_in _ (by omega)
      have hlo := lowS_le y2
      have ea := and64 z2 (lowS y2) (by omega) (by omega)
      have k0 : (0 : Int) ≤ (k : Int) := by omega
      have k1 : (k : Int) < (M.length : Int) := by omega
      have HPL := hide (fun w5 => plus_c (z1, z2) (y1, y2) ⟨by omega, by omega⟩ ⟨by omega, by omega⟩ w5)
      have bxo := Box.new wo 138 #[.int .i64 (y1 : Int), .int .i64 (y2 : Int)]
      have bx' := bx.alloc (.cells #[.int .i64 (y1 : Int), .int .i64 (y2 : Int)] 138)
      have bxr' := bxr.alloc (.cells #[.int .i64 (y1 : Int), .int .i64 (y2 : Int)] 138)
      have hb' := hb.alloc hb.size (.cells #[.int .i64 (y1 : Int), .int .i64 (y2 : Int)] 138)
      have d0 := bxo.cell 0
      have d1 := bxo.cell 1
      have e0 := bx'.cell 0
      have e1 := bx'.cell 1
      by_cases hc : z2 &&& lowS y2 = 0
      · rw [hc] at ea
        rw [if_pos hc] at hSk
        have HSk := hide hSk
        have hz0 : ((0 : Int) != 0) = false := by decide
        clear hSk hc hy hlo
        generalize lowS y2 = lo at *
        go_wp2_with fail
        exact ⟨⟨k + 1, hlt, by go_num, hb', by rw [HSk.out]; exact bx', bxr'⟩, by simp [intOf]; omega⟩
      · rw [if_neg hc] at hSk
        have HSk := hide hSk
        have hnz : (((z2 &&& lowS y2 : Nat) : Int) != 0) = true := by rw [bne_iff_ne]; omega
        clear hSk hc hy hlo
        generalize z2 &&& lowS y2 = an at *
        generalize lowS y2 = lo at *
        have HPL' := hide (fun w5 => show Calls Tryz.prog 106 #[.agg #[.int .i64 (z1 : Int), .int .i64 (z2 : Int)], .agg #[.int .i64 (y1 : Int), .int .i64 (y2 : Int)]] w5 (Plain (.agg #[.int .i64 ((z1 ^^^ y1 : Nat) : Int), .int .i64 ((z2 ^^^ y2 : Nat) : Int)]) w5) from HPL.out w5)
        have HSk' : Hid (lessTo M (r1, r2) (k + 1) = (z1 ^^^ y1, z2 ^^^ y2)) := HSk.out
        generalize z1 ^^^ y1 = c1 at *
        generalize z2 ^^^ y2 = c2 at *
        clear HPL HSk
        go_wp2_with fail
        refine (HPL'.out _).mono ?_
        rintro e w3 ⟨rfl, b3⟩
        have bx3 := bx'.then b3
        have bxr3 := bxr'.then b3
        have hb3 := below_then hb' hb'.size b3
        obtain ⟨f1, f2, f3, f4, -, -, f7⟩ := end2 bx3 (.int .i64 (c1 : Int)) (.int .i64 (c2 : Int))
        have bxr4 := (bxr3.other (p := ⟨W.heap.size, 0, none⟩) (by simp) (.int .i64 (c1 : Int))).other (p := ⟨W.heap.size, 1, none⟩) (by simp) (.int .i64 (c2 : Int))
        have hb4 := (hb3.setCell (p := ⟨W.heap.size, 0, none⟩) (Nat.le_refl _) (.int .i64 (c1 : Int))).setCell (p := ⟨W.heap.size, 1, none⟩) (Nat.le_refl _) (.int .i64 (c2 : Int))
        clear bx3 bxr3 hb3 b3 bx' bxr' hb' d0 d1 e0 e1 bxo
        go_wp2_with fail
        exact ⟨⟨k + 1, hlt, by go_num, hb4, by rw [HSk'.out]; exact f7, bxr4⟩, by simp [intOf]; omega⟩
    · obtain rfl : k = M.length := by omega
      rw [← HE.out] at bx
      obtain ⟨z1, z2⟩ := fin
      have e0 := bx.cell 0
      have e1 := bx.cell 1
      obtain ⟨f1, f2, f3, f4, f5, f6, -⟩ := end2 bxr (.int .i64 (z1 : Int)) (.int .i64 (z2 : Int))
      clear hSk
      go_wp2_with fail
      refine bodyPost_ret (v := .agg #[.int .i64 (z1 : Int), .int .i64 (z2 : Int)]) (by simp [results, Tryz.results82, go_sem, f5, f6]) rfl ⟨rfl, ?_⟩
      exact (hb.setCell (by simp) _).setCell (by simp) _

/-- Two rows of the call's own that lie apart. -/
def Apart2 (v u : Value) : Prop := ∀ k, v.ownBlock = some k → u.ownBlock ≠ some k
theorem Apart2.symm {v u : Value} (h : Apart2 v u) : Apart2 u v := fun k hu hv => h k hv hu
theorem Apart2.put {w : World} {base e size n : Nat} {v v' u : Value} {xs : List Value} (h : Apart2 v u) (hu : w.ownsRow base e size u n xs) (ho : v'.ownBlock = v.ownBlock ∨ v'.ownBlock = some w.heap.size) : Apart2 v' u := fun k hk hu' => by
  rcases ho with ho | ho
  · exact h k (ho.symm.trans hk) hu'
  · rw [ho] at hk
    injection hk with hk
    have := (hu.lt k hu').2
    omega
theorem own_apartL {w w' : World} {base e size n : Nat} {v u : Value} {xs : List Value} (hu : w.ownsRow base e size u n xs) (hg : w.grownBy w' v.ownBlock) (h : Apart2 v u) : w'.ownsRow base e size u n xs := hu.kept hg (by
  cases hv : u.ownBlock with
  | none => exact .inl rfl
  | some k => exact .inr fun e => h k e.symm hv)
theorem own_set_new {w : World} {base e size n G i : Nat} {v x : Value} {xs : List Value} (h : w.ownsRow base e size v n xs) (hG : ∀ k, v.ownBlock = some k → k < G) : (w.setCell ⟨G, i, none⟩ x).ownsRow base e size v n xs := h.kept (row := some G) ⟨rfl, rfl, rfl, by simp, fun j _ hne => Below.heap_setCell w _ x j (fun e => hne (by rw [e]))⟩ (by
  cases hv : v.ownBlock with
  | none => exact .inl rfl
  | some k =>
    right
    intro e
    injection e with e
    have := hG k hv
    omega)
theorem elem_ps : Elem Tryz.prog 135 1 8 := Elem.of (z := .int .i64 0) (by kernel_rfl) rfl (by omega)
theorem elem_pr : Elem Tryz.prog 138 2 16 := Elem.of (z := .agg #[.int .i64 0, .int .i64 0]) (by kernel_rfl) rfl (by omega)
theorem natI_snocL (L : List Nat) (x : Nat) : ints (natI L) ++ [.int .i64 (x : Int)] = ints (natI (L ++ [x])) := by simp [natI, ints]
theorem cells2_snoc (R : List Row2) (p : Row2) : cells2 R ++ [.int .i64 ((p.1 : Nat) : Int), .int .i64 ((p.2 : Nat) : Int)] = cells2 (R ++ [p]) := by simp [cells2]
theorem lead_lt {R : List Row2} {m : Nat} (hR : ∀ k : Nat, (R[k]?.getD (0, 0)).1 < 2 ^ m ∧ (R[k]?.getD (0, 0)).2 < 2 ^ m) : ∀ k, (∀ j : Nat, ((leadTo R k).1[j]?.getD (0, 0)).1 < 2 ^ m ∧ ((leadTo R k).1[j]?.getD (0, 0)).2 < 2 ^ m) ∧ (leadTo R k).1.length ≤ k ∧ (leadTo R k).2.length ≤ k
  | 0 => ⟨fun j => by simp [leadTo]; exact Nat.two_pow_pos m, by simp [leadTo], by simp [leadTo]⟩
  | k + 1 => by
    obtain ⟨h1, h2, h3⟩ := lead_lt hR k
    have hl := less_lt h1 (hR k) (leadTo R k).1.length
    simp only [leadTo]
    split
    · exact ⟨h1, by simp only; omega, by simp; omega⟩
    · refine ⟨fun j => ?_, by simp; omega, by simp only; omega⟩
      simp only
      rcases Nat.lt_trichotomy j (leadTo R k).1.length with hj | hj | hj
      · rw [List.getElem?_append_left hj]; exact h1 j
      · rw [hj, List.getElem?_append_right (Nat.le_refl _), Nat.sub_self]; exact hl
      · rw [List.getElem?_eq_none (by simp; omega)]; exact ⟨Nat.two_pow_pos m, Nat.two_pow_pos m⟩

/-- The rows of leads and the quiet sets, each a row of the call's own. -/
def Leads (M : List Row2) (Q : List Nat) (W : World) (e : Ending) (w' : World) : Prop := ∃ v1 v2, e = .returned (.tuple #[v1, v2]) ∧ w'.ownsRow W.heap.size 138 2 v1 M.length (cells2 M) ∧ w'.ownsRow W.heap.size 135 1 v2 Q.length (ints (natI Q)) ∧ Below W.heap.size W w'
set_option maxHeartbeats 4000000 in
set_option maxRecDepth 100000 in
theorem leadRows_c (w h : Nat) (W : World) (hw : 1 ≤ w ∧ w ≤ 5) (hh : 1 ≤ h ∧ h ≤ 5) (h12 : w * h ≤ 12) :
    Calls Tryz.prog 81 #[boardV (w : Int) (h : Int)] W (Leads (leadTo (rowsP (litL w h)) (w * h)).1 (leadTo (rowsP (litL w h)) (w * h)).2 W) := by
  have HP := hide (fun w5 => pressRows_c w h w5 hw hh h12)
  have hl := litL_len w h
  have HRL := hide (show (rowsP (litL w h)).length = w * h by simp [rowsP, hl])
  have hRb : ∀ k : Nat, ((rowsP (litL w h))[k]?.getD (0, 0)).1 < 2 ^ 12 ∧ ((rowsP (litL w h))[k]?.getD (0, 0)).2 < 2 ^ 12 := fun k => by
    rcases Nat.lt_or_ge k (w * h) with hk | hk
    · have : (rowsP (litL w h))[k]?.getD (0, 0) = (2 ^ k, (litL w h)[k]?.getD 0) := by
        unfold rowsP
        rw [List.getElem?_map, List.getElem?_range (by omega)]
        rfl
      rw [this]
      exact ⟨Nat.pow_lt_pow_right (by omega) (by omega), set12 h12 (lit_bd hw hh h12 k)⟩
    · rw [List.getElem?_eq_none (by have := HRL.out; omega)]
      exact ⟨by decide, by decide⟩
  have HRb := hide hRb
  have HB := hide (fun k => lead_lt hRb k)
  have H0 := hide (show leadTo (rowsP (litL w h)) 0 = ([], []) from rfl)
  have HS := hide (fun k => show leadTo (rowsP (litL w h)) (k + 1) = if (lessP (leadTo (rowsP (litL w h)) k).1 ((rowsP (litL w h))[k]?.getD (0, 0))).2 = 0 then ((leadTo (rowsP (litL w h)) k).1, (leadTo (rowsP (litL w h)) k).2 ++ [(lessP (leadTo (rowsP (litL w h)) k).1 ((rowsP (litL w h))[k]?.getD (0, 0))).1])
      else ((leadTo (rowsP (litL w h)) k).1 ++ [lessP (leadTo (rowsP (litL w h)) k).1 ((rowsP (litL w h))[k]?.getD (0, 0))], (leadTo (rowsP (litL w h)) k).2) from rfl)
  have hpos : 0 < w * h := Nat.mul_pos (by omega) (by omega)
  have hb0 : Below W.heap.size W (W.alloc (.cells #[.int .i64 (w : Int), .int .i64 (h : Int)] 40)) := (Below.refl _ _).alloc (Nat.le_refl _) _
  clear hl hRb hw hh
  generalize rowsP (litL w h) = R at *
  generalize w * h = n at *
  go_enter Tryz.func81, Tryz.ntmps81
  go_wp2_with fail
  refine (HP.out _).mono ?_
  rintro e w2 ⟨v2, rfl, o2, b2⟩
  have hb2 := below_then hb0 hb0.size b2
  obtain ⟨g, c2, rfl, _, _⟩ := own_addr o2 hpos
  have R2 := hide (own_reads o2)
  have z2 := hb2.size
  clear o2 b2 hb0
  go_wp2_with fail
  go_loopw [4, 5, 11] (fun v1 v2 i wr => ∃ k : Nat, k ≤ n ∧ i = .int .i64 (k : Int) ∧ wr.ownsRow w2.heap.size 138 2 v1 (leadTo R k).1.length (cells2 (leadTo R k).1) ∧ wr.ownsRow w2.heap.size 135 1 v2 (leadTo R k).2.length (ints (natI (leadTo R k).2)) ∧ Apart2 v1 v2 ∧ Below w2.heap.size w2 wr) (fun _ _ i _ => n - (intOf i).toNat)
  case atStart => exact ⟨0, Nat.zero_le _, rfl, by rw [H0.out]; exact World.ownsRow_nil _ _ _ _, by rw [H0.out]; exact World.ownsRow_nil _ _ _ _, (fun k hk => by cases hk), Below.refl _ _⟩
  case round =>
    obtain ⟨k, hk, rfl, own1, own2, hap, hb⟩ := hrel
    obtain ⟨wo, rfl⟩ : ∃ wo : World, wo = wr := ⟨_, rfl⟩
    by_cases hlt : k < n
    · obtain ⟨q1, q2⟩ := Row.row2 (R2.out.below hb) (k := k) (by rw [HRL.out]; exact hlt)
      obtain ⟨mb, ml, ql⟩ := HB.out k
      have rb := HRb.out k
      have hSk := HS.out k
      generalize hM : (leadTo R k).1 = M at *
      generalize hQ : (leadTo R k).2 = Q at *
      generalize hy : R[k]?.getD (0, 0) = y at *
      have hfb := less_lt mb rb M.length
      have HLC := hide (fun (A : Option Addr) (c : Nat) (w5 : World) (hr : Row w5 A (cells2 M)) (hA : M.length ≠ 0 → ∃ g, A = some ⟨g, 0, none⟩) => less_c A c M y w5 hr hA mb (by omega) rb)
      have hE : lessTo M y M.length = lessP M y := rfl
      rw [hE] at hfb
      generalize hf : lessP M y = f at *
      obtain ⟨y1, y2⟩ := y
      obtain ⟨f1, f2⟩ := f
      simp only at q1 q2 hSk hfb
      have HM := hide hM
      have HQ := hide hQ
      obtain ⟨A1, c1, rfl, _, _, row1, hA1⟩ := own_row own1
      have hA1' : M.length ≠ 0 → ∃ g, A1 = some ⟨g, 0, none⟩ := fun h0 => by
        obtain ⟨g', c', e', _⟩ := own_addr own1 (by omega)
        injection e' with e1 e2 e3
        exact ⟨g', e1⟩
      have row1' := hide (row1.alloc (.cells #[.int .i64 (y1 : Int), .int .i64 (y2 : Int)] 138))
      have HA1 := hide hA1'
      have l1 : ∀ j, (Value.slice A1 M.length c1).ownBlock = some j → j < wo.heap.size := fun j hj => (own1.lt j hj).2
      obtain ⟨A2, c2', rfl, _⟩ := own_row own2
      have l2 : ∀ j, (Value.slice A2 Q.length c2').ownBlock = some j → j < wo.heap.size := fun j hj => (own2.lt j hj).2
      have L1 := hide l1
      have L2 := hide l2
      have bxo := Box.new wo 138 #[.int .i64 (y1 : Int), .int .i64 (y2 : Int)]
      have own1 := own1.alloc (.cells #[.int .i64 (y1 : Int), .int .i64 (y2 : Int)] 138)
      have own2 := own2.alloc (.cells #[.int .i64 (y1 : Int), .int .i64 (y2 : Int)] 138)
      have hb' := hb.alloc hb.size (.cells #[.int .i64 (y1 : Int), .int .i64 (y2 : Int)] 138)
      have zo := hb.size
      obtain ⟨G, hG⟩ : ∃ G, wo.heap.size = G := ⟨_, rfl⟩
      rw [hG] at bxo L1 L2 zo
      have HG := hide hG
      have k0 : (0 : Int) ≤ (k : Int) := by omega
      have k1 : (k : Int) < (n : Int) := by omega
      have d0 := bxo.cell 0
      have d1 := bxo.cell 1
      clear hM hQ hy hf hE hA1 hA1' row1 l1 l2 hG hb mb rb
      go_wp2_with fail
      refine (HLC.out _ _ _ row1'.out HA1.out).mono ?_
      rintro e w3 ⟨rfl, b3⟩
      rw [HG.out]
      have bx3 := bxo.then b3
      have own1 := own_below own1 b3
      have own2 := own_below own2 b3
      have hb3 := below_then hb' hb'.size b3
      obtain ⟨e1, e2, e3, e4, -, -, e7⟩ := end2 bx3 (.int .i64 (f1 : Int)) (.int .i64 (f2 : Int))
      have own1 := own_set_new (G := G) (i := 1) (x := .int .i64 (f2 : Int)) (own_set_new (G := G) (i := 0) (x := .int .i64 (f1 : Int)) own1 L1.out) L1.out
      have own2 := own_set_new (G := G) (i := 1) (x := .int .i64 (f2 : Int)) (own_set_new (G := G) (i := 0) (x := .int .i64 (f1 : Int)) own2 L2.out) L2.out
      have hb4 := (hb3.setCell (p := ⟨G, 0, none⟩) zo (.int .i64 (f1 : Int))).setCell (p := ⟨G, 1, none⟩) zo (.int .i64 (f2 : Int))
      have g0 := e7.cell 0
      have g1 := e7.cell 1
      clear bxo bx3 b3 hb3 hb' d0 d1 e7
      by_cases h0 : f2 = 0
      · subst h0
        rw [if_pos rfl] at hSk
        have HT1 := hide (show (leadTo R (k + 1)).1 = M by rw [hSk])
        have HT2 := hide (show (leadTo R (k + 1)).2 = Q ++ [f1] by rw [hSk])
        have OW1 := hide (own1.alloc (.cells #[.int .i64 (f1 : Int)] 135))
        have OW2 := hide (own2.alloc (.cells #[.int .i64 (f1 : Int)] 135))
        have HB4 := hide (hb4.alloc hb4.size (.cells #[.int .i64 (f1 : Int)] 135))
        have hz0 : (((0 : Nat) : Int) == 0) = true := rfl
        clear hSk own1 own2 hb4
        go_wp2_with ((at_builtin; refine put_own rfl (.tmp 21) (.tmp 24) rfl Tryz.underlying132 elem_ps rfl OW2.out rfl (m := 1) (news := [.int .i64 (f1 : Int)]) rfl (row_new _ _ _ (by simp)) (by simp [Value.oneCell']) (by omega) (by omega) HB4.out.size ?_; intro v3 w5 own5 hg5 ho5))
        rw [natI_snocL] at own5
        have X1 := hide (own_apartL OW1.out hg5 hap.symm)
        have X3 := hide (Apart2.put hap.symm OW1.out ho5).symm
        have X2 := hide (below_grown HB4.out HB4.out.size OW2.out (Nat.le_refl _) hg5)
        exact ⟨⟨k + 1, hlt, by go_num, by rw [HT1.out]; exact X1.out, by rw [HT2.out]; simpa using own5, X3.out, X2.out⟩, by simp [intOf]; omega⟩
      · rw [if_neg h0] at hSk
        have HT1 := hide (show (leadTo R (k + 1)).1 = M ++ [(f1, f2)] by rw [hSk])
        have HT2 := hide (show (leadTo R (k + 1)).2 = Q by rw [hSk])
        have OW1 := hide (own1.alloc (.cells #[.int .i64 (f1 : Int), .int .i64 (f2 : Int)] 138))
        have OW2 := hide (own2.alloc (.cells #[.int .i64 (f1 : Int), .int .i64 (f2 : Int)] 138))
        have HB4 := hide (hb4.alloc hb4.size (.cells #[.int .i64 (f1 : Int), .int .i64 (f2 : Int)] 138))
        have hz0 : ((f2 : Int) == 0) = false := by rw [beq_eq_false_iff_ne]; omega
        clear hSk own1 own2 hb4 h0
        go_wp2_with ((at_builtin; refine put_own rfl (.tmp 26) (.tmp 28) rfl Tryz.underlying131 elem_pr rfl OW1.out rfl (m := 1) (news := [.int .i64 (f1 : Int), .int .i64 (f2 : Int)]) rfl (row_new _ _ _ (by simp)) (by simp [Value.oneCell']) (by omega) (by omega) HB4.out.size ?_; intro v3 w5 own5 hg5 ho5))
        have own5 : w5.ownsRow w2.heap.size 138 2 v3 (M.length + 1) (cells2 (M ++ [(f1, f2)])) := by rw [← cells2_snoc]; exact own5
        have X1 := hide (own_apartL OW2.out hg5 hap)
        have X3 := hide (Apart2.put hap OW2.out ho5)
        have X2 := hide (below_grown HB4.out HB4.out.size OW1.out (Nat.le_refl _) hg5)
        exact ⟨⟨k + 1, hlt, by go_num, by rw [HT1.out]; simpa using own5, by rw [HT2.out]; exact X1.out, X3.out, X2.out⟩, by simp [intOf]; omega⟩
    · obtain rfl : k = n := by omega
      go_wp2_with fail
      go_ret2
      exact ⟨_, _, rfl, own_mono own1 z2, own_mono own2 z2, below_then hb2 hb2.size hb⟩
end Go.Proofs.YtmfdlijkpdgimaaGreatDoor

/-
  The program's lights: QuietCount.
-/
namespace Go.Proofs.YtmfdlijkpdgimaaGreatDoor
open Go.RowKit
set_option linter.unusedVariables false

theorem dat_leads {w h : Nat} (hw : 1 ≤ w ∧ w ≤ 5) (hh : 1 ≤ h ∧ h ≤ 5) (h12 : w * h ≤ 12) (W : World) :
    Calls Tryz.prog 81 #[boardV (w : Int) (h : Int)] W (Leads (datL w h).leads (datL w h).quiet W) := by
  have := leadRows_c w h W hw hh h12
  rw [(dat_is hw hh h12).lit, (dat_is hw hh h12).leads] at this
  exact this
theorem own_head {w : World} {base e size n : Nat} {A : Option Addr} {c : Nat} {cs : List Value} (h : w.ownsRow base e size (.slice A n c) n cs) : n ≠ 0 → ∃ g, A = some ⟨g, 0, none⟩ := fun h0 => by
  obtain ⟨g', c', e', _⟩ := own_addr h (by omega)
  injection e' with e1 e2 e3
  exact ⟨g', e1⟩

end Go.Proofs.YtmfdlijkpdgimaaGreatDoor

/-
  The program's lights: CanDarken; appends.
-/
namespace Go.Proofs.YtmfdlijkpdgimaaGreatDoor
open Go.RowKit
set_option linter.unusedVariables false

set_option maxRecDepth 100000 in
theorem ones64_12 (t : Nat) (ht : t < 4096) (w : World) : Calls Tryz.prog 138 #[.int .u64 (t : Int)] w fun e w' => e = .returned (.int .i64 ((pcN 12 t : Nat) : Int)) ∧ w = w' := by
  go_enter Tryz.func138, Tryz.ntmps138
  go_wp2_with fail
  go_ret
  refine ⟨?_, rfl⟩
  refine (show Ending.returned (.int .i64 _) = _ from ret_int (k := .i64) ?_)
  obtain ⟨a, b, rfl⟩ : ∃ a b : Fin 64, a.val * 64 + b.val = t := ⟨⟨t / 64, by omega⟩, ⟨t % 64, by omega⟩, by simp only; omega⟩
  clear ht
  revert b
  revert a
  decide +kernel
theorem ones_12 (t : Nat) (ht : t < 4096) (w : World) : Calls Tryz.prog 107 #[.int .u64 (t : Int)] w fun e w' => e = .returned (.int .i64 ((pcN 12 t : Nat) : Int)) ∧ w = w' := by
  have H := hide (fun w5 => ones64_12 t ht w5)
  go_enter Tryz.func107, Tryz.ntmps107
  go_wp2_with fail
  refine (H.out _).mono ?_
  rintro e w1 ⟨rfl, rfl⟩
  go_wp2_with fail
  go_ret
  exact ⟨rfl, rfl⟩
theorem sizeOf_12 (t : Nat) (ht : t < 4096) (w : World) : Calls Tryz.prog 85 #[.int .i64 (t : Int)] w fun e w' => e = .returned (.int .i64 ((pcN 12 t : Nat) : Int)) ∧ w = w' := by
  have H := hide (fun w5 => ones_12 t ht w5)
  have e0 : IntKind.u64.wrap (t : Int) = (t : Int) := IntWalk.u64_in _ (by omega)
  go_enter Tryz.func85, Tryz.ntmps85
  go_wp2_with fail
  refine (H.out _).mono ?_
  rintro e w1 ⟨rfl, rfl⟩
  go_wp2_with fail
  go_ret
  exact ⟨rfl, rfl⟩

theorem field2 (a b : Int) : ∀ w : World, (Instr.field 138 (.agg #[.int .i64 a, .int .i64 b]) 1).run Tryz.prog w = .ok (.int .i64 b) w := fun w => by kernel_rfl
/-- AN APPEND TO A ROW OF THE CALL's OWN: what lay behind its old head is read there still. -/
theorem put_keep_run {P : Program} (w : World) {t e : TypeId} {size bytes : Nat} (ty : TypeId) (ht : P.underlying t = some (.slice e)) (he : Elem P e size bytes)
    {B g cap n m c : Nat} {xs news : List Value} {ad : Addr} (hown : w.ownsRow B e size (.slice (some ⟨g, 0, none⟩) n cap) n xs) (hl : news.length = m * size) (hr : Row w (some ad) news)
    (h1 : ∀ u ∈ news, u.oneCell' = true) (hsmall : n + m ≤ 1099511627776) (hbytes : bytes ≤ 100) (hB : B ≤ w.heap.size) :
    ∃ v' w', (Builtin.append_ #[t, t] ty #[.slice (some ⟨g, 0, none⟩) n cap, .slice (some ad) m c]).run P w = .ok v' w' ∧ w'.ownsRow B e size v' (n + m) (xs ++ news) ∧ w.grownBy w' (some g) ∧ Row w' (some ⟨g, 0, none⟩) xs := by
  obtain ⟨⟨i, z, hi, hz, hs, hby, hzs⟩, hpos⟩ := he
  have hb2 : (n + m) * bytes ≤ 140737488355328 := Nat.le_trans (Nat.mul_le_mul hsmall hbytes) (by omega)
  have hnews : ∀ j u, news[j]? = some u → w.cell? (ad.add j) = some u := fun j u hu => by
    obtain ⟨hj, rfl⟩ := List.getElem?_eq_some_iff.1 hu
    obtain ⟨_, ⟨rfl⟩, hc⟩ := hr j hj
    exact hc
  have hold := own_reads hown
  by_cases hroom : n + m ≤ cap
  · obtain ⟨w', h2, h3, h4⟩ := run_append_fits (P := P) w B t ty e i size ht hi hs g n cap xs hown ad m c news hl hnews h1 hroom
    refine ⟨_, w', h2, h3, h4, fun j hj => ⟨_, rfl, ?_⟩⟩
    have hlx := hown.1
    have := h3.cellAt j (by rw [← h3.1, List.length_append]; omega)
    rw [add0, this, List.getElem?_append_left hj, List.getElem?_eq_getElem hj]
  · obtain ⟨v', w', h2, h3, h4, _, h5⟩ := run_append_own_at (P := P) w B t ty e i z size bytes ht hi hz hs hby hzs hpos _ n xs hown ad m c news hl hnews h1 (by simp only [maxLen]; omega) hb2 hB
    have holds : ∀ j u, xs[j]? = some u → w.cell? ((⟨g, 0, none⟩ : Addr).add j) = some u := hown.cells (g := g) rfl
    have hr := run_append_grow (P := P) w t ty e i z ht hi hz ⟨g, 0, none⟩ n cap xs (by rw [hown.1, hs]) holds ad m c news (by rw [hl, hs]) hnews (by omega) (by omega) (growslice_fits (by omega) (by rw [hby]; exact hb2))
    rw [h2] at hr
    injection hr with e1 e2
    refine ⟨v', w', h2, h3, h4, ?_⟩
    rw [e2]
    exact hold.drew.alloc _
theorem put_keep {P : Program} {ops : Array Oper} {rest : List Oper} {o : Oper} {a : Act} {Q : Exit → Act → World → Prop} {w : World} (hgd : o.guard = none) (s x : Operand) {t : TypeId}
    (ho : o.op = .call { callee := .builtin .append, args := #[s, x], argTypes := #[t, t] })
    {e : TypeId} {size bytes : Nat} (ht : P.underlying t = some (.slice e)) (he : Elem P e size bytes)
    {B g cap n m c : Nat} {xs news : List Value} {ad : Addr} (hs : a.eval s = .slice (some ⟨g, 0, none⟩) n cap) (hown : w.ownsRow B e size (.slice (some ⟨g, 0, none⟩) n cap) n xs) (hx : a.eval x = .slice (some ad) m c) (hl : news.length = m * size) (hr : Row w (some ad) news)
    (h1 : ∀ u ∈ news, u.oneCell' = true) (hsmall : n + m ≤ 1099511627776) (hbytes : bytes ≤ 100) (hB : B ≤ w.heap.size)
    (h : ∀ v' w', w'.ownsRow B e size v' (n + m) (xs ++ news) → w.grownBy w' (some g) → Row w' (some ⟨g, 0, none⟩) xs → wpList P ops Q rest (a.put o.dst v') w') : wpList P ops Q (o :: rest) a w := by
  obtain ⟨v', w', hrun, h2, h3, h4⟩ := put_keep_run (P := P) w o.type ht he (c := c) hown hl hr h1 hsmall hbytes hB
  refine wpList_plain hgd fun K hK => ?_
  unfold Oper.wp execOp
  simp only [ho, resolve, invoke, builtin, Sem.run_bind, Sem.run_pure, Result.andThen_ok, List.map_toArray, List.map_cons, List.map_nil, hs, hx, hrun]
  exact hK _ _ (h v' w' h2 h3 h4)
end Go.Proofs.YtmfdlijkpdgimaaGreatDoor

/-
  The program's lights: FewestPresses.
-/
namespace Go.Proofs.YtmfdlijkpdgimaaGreatDoor
open Go.RowKit
set_option linter.unusedVariables false

theorem Row.front {w : World} {A : Option Addr} {cs ds : List Value} (h : Row w A (cs ++ ds)) : Row w A cs := fun j hj => by
  obtain ⟨ad, e, hc⟩ := h j (by rw [List.length_append]; omega)
  exact ⟨ad, e, by rw [hc, List.getElem_append_left hj]⟩
theorem natI_front (L M : List Nat) : ints (natI (L ++ M)) = ints (natI L) ++ ints (natI M) := by simp [natI, ints]
theorem dbl_len (Q S : List Nat) : ∀ k, (dblTo Q S k).length = S.length * 2 ^ k
  | 0 => by simp [dblTo]
  | k + 1 => by
    simp only [dblTo, List.length_append, List.length_map]
    rw [dbl_len Q S k, Nat.pow_succ, ← Nat.mul_assoc]
    omega
theorem dbl_lt {Q S : List Nat} {m : Nat} (hQ : ∀ k : Nat, Q[k]?.getD 0 < 2 ^ m) (hS : ∀ k : Nat, S[k]?.getD 0 < 2 ^ m) : ∀ k j : Nat, (dblTo Q S k)[j]?.getD 0 < 2 ^ m
  | 0, j => hS j
  | k + 1, j => by
    have ih := dbl_lt hQ hS k
    simp only [dblTo]
    rcases Nat.lt_or_ge j (dblTo Q S k).length with hj | hj
    · rw [List.getElem?_append_left hj]; exact ih j
    · rw [List.getElem?_append_right hj, List.getElem?_map]
      generalize j - (dblTo Q S k).length = i
      have := ih i
      cases he : (dblTo Q S k)[i]? with
      | none => simp; exact Nat.two_pow_pos m
      | some x =>
        rw [he] at this
        exact Nat.xor_lt_two_pow this (hQ k)
theorem own_first {w : World} {B x : Nat} (h : B ≤ w.heap.size) {g : Nat} (hg : g = w.heap.size) : (w.alloc (.cells #[.int .i64 (x : Int)] 135)).ownsRow B 135 1 (.slice (some ⟨g, 0, none⟩) 1 1) 1 (ints (natI [x])) := hg ▸
  ⟨by simp [natI], .inr ⟨w.heap.size, 1, #[.int .i64 (x : Int)], rfl, h, heap_alloc_new w _, Nat.le_refl _, by simp [maxLen], rfl, by simp [natI]⟩⟩
theorem minTo_le (b : Nat) (S : List Nat) : ∀ k, minTo b S k ≤ b
  | 0 => Nat.le_refl _
  | k + 1 => Nat.le_trans (Nat.min_le_left _ _) (minTo_le b S k)

set_option maxHeartbeats 4000000 in
set_option maxRecDepth 100000 in
theorem implFewestPresses_c (bc br x : Int) (W : World) : Calls Tryz.prog 60 #[.int .i64 bc, .int .i64 br, .int .i64 x] W (Plain (.int .i64 (fewVL bc br x)) W) := by
  have HLB := hide (litBoard_c bc br (some ⟨W.heap.size, 0, none⟩) 1 [x] (W.alloc (.cells #[.int .i64 x] 3)) (row_new W #[.int .i64 x] 3 rfl) (by simp))
  rcases HLB.out with ⟨w, h, rfl, rfl, hw, hh, h12, hS, hC⟩ | ⟨hN, hC⟩
  · obtain ⟨x', rfl⟩ := Int.eq_ofNat_of_zero_le (hS 0 (by simp)).1
    have hx : x' < 2 ^ (w * h) := by have h0 := (hS 0 (by simp)).2; have p := Nat.two_pow_pos (w * h); simp only [List.getElem?_cons_zero, Option.getD_some] at h0; omega
    rw [fewVL_nat hw hh h12 hx]
    have HC := hide hC
    have hD := dat_is hw hh h12
    have HP := hide (fun w5 => dat_leads hw hh h12 w5)
    have hmb : ∀ k : Nat, ((datL w h).leads[k]?.getD (0, 0)).1 < 2 ^ 12 ∧ ((datL w h).leads[k]?.getD (0, 0)).2 < 2 ^ 12 := fun k => ⟨set12 h12 (hD.leadbd k).1, set12 h12 (hD.leadbd k).2⟩
    have hqb : ∀ k : Nat, (datL w h).quiet[k]?.getD 0 < 2 ^ 12 := fun k => set12 h12 (hD.quietbd k)
    have hq3 := hD.three
    have hml : (datL w h).leads.length ≤ 12 := by
      have := (lead_lt (R := rowsP (datL w h).lit) (m := 64) (fun k => by
        rcases Nat.lt_or_ge k (w * h) with hk | hk
        · have e : (rowsP (datL w h).lit)[k]?.getD (0, 0) = (2 ^ k, (datL w h).lit[k]?.getD 0) := rowsP_at _ (by rw [hD.len]; exact hk)
          rw [e]
          exact ⟨Nat.pow_lt_pow_right (by omega) (by omega), Nat.lt_trans (set12 h12 (hD.bd k)) (by decide)⟩
        · rw [List.getElem?_eq_none (by rw [rowsP_len, hD.len]; omega)]
          exact ⟨by decide, by decide⟩) (w * h)).2.1
      rw [hD.leads] at this
      simp only at this
      omega
    have hxb : ((0 : Nat), x').1 < 2 ^ 12 ∧ ((0 : Nat), x').2 < 2 ^ 12 := ⟨show (0 : Nat) < 2 ^ 12 by decide, set12 h12 hx⟩
    have hfb := less_lt hmb hxb (datL w h).leads.length
    have HLC := hide (fun (A : Option Addr) (c : Nat) (w5 : World) (hr : Row w5 A (cells2 (datL w h).leads)) (hA : (datL w h).leads.length ≠ 0 → ∃ g, A = some ⟨g, 0, none⟩) => less_c A c (datL w h).leads (0, x') w5 hr hA hmb (by omega) hxb)
    have HZ := hide (fun w6 => by
      have := size_c (w : Int) (h : Int) w6 (by omega) (by omega) (by omega) (by omega)
      rw [← Int.natCast_mul] at this
      exact this)
    have hfb : (lessP (datL w h).leads (0, x')).1 < 2 ^ 12 := hfb.1
    have HV : Hid (fewI (w * h) (datL w h).leads (datL w h).quiet x' = if (lessP (datL w h).leads (0, x')).2 = 0 then some (minTo (w * h) (dblTo (datL w h).quiet [(lessP (datL w h).leads (0, x')).1] (datL w h).quiet.length) (dblTo (datL w h).quiet [(lessP (datL w h).leads (0, x')).1] (datL w h).quiet.length).length) else none) := rfl
    clear HLB hS hC hx hh hw hD hmb hml hxb
    generalize fewI (w * h) (datL w h).leads (datL w h).quiet x' = V at *
    generalize (datL w h).leads = M at *
    generalize (datL w h).quiet = Q at *
    generalize lessP M (0, x') = f at *
    generalize w * h = n at *
    obtain ⟨f1, f2⟩ := f
    simp only at hfb HV
    have HLC := hide (fun (A : Option Addr) (c : Nat) (w5 : World) (hr : Row w5 A (cells2 M)) (hA : M.length ≠ 0 → ∃ g, A = some ⟨g, 0, none⟩) => show Calls Tryz.prog 82 #[.agg #[.int .i64 0, .int .i64 (x' : Int)], .slice A M.length c] w5 (Plain (.agg #[.int .i64 (f1 : Int), .int .i64 (f2 : Int)]) w5) from HLC.out A c w5 hr hA)
    obtain ⟨VV, hVV⟩ : ∃ VV : Int, optV V = VV := ⟨_, rfl⟩
    rw [hVV]
    have HVV := hide hVV
    clear hVV
    go_enter Tryz.func60, Tryz.ntmps60
    go_wp2_with fail
    refine HC.out.mono ?_
    rintro e w1 ⟨rfl, b1⟩
    have hb1 : Below W.heap.size W w1 := below_then ((Below.refl _ _).alloc (Nat.le_refl _) _) (by simp) b1
    have bxb := Box.new w1 40 #[.int .i64 (w : Int), .int .i64 (h : Int)]
    clear b1 HC
    go_wp2_with fail
    refine (HP.out _).mono ?_
    rintro e w2 ⟨v1, v2, rfl, o1, o2, b2⟩
    have bxb := bxb.then b2
    have hb2 := below_then (hb1.alloc hb1.size (.cells #[.int .i64 (w : Int), .int .i64 (h : Int)] 40)) (hb1.alloc hb1.size (.cells #[.int .i64 (w : Int), .int .i64 (h : Int)] 40)).size b2
    obtain ⟨A1, c1, rfl, _⟩ := own_row o1
    obtain ⟨A2, c2, rfl, _⟩ := own_row o2
    have HH := hide (own_head o1)
    have R1 := hide (own_reads o1)
    have R2 := own_reads o2
    obtain ⟨gb, hgb⟩ : ∃ gb, w1.heap.size = gb := ⟨_, rfl⟩
    rw [hgb] at bxb ⊢
    clear o1 o2 b2 hb1 hgb
    go_wp2_with fail
    refine (HLC.out _ _ _ R1.out HH.out).mono ?_
    rintro e w3 ⟨rfl, b3⟩
    have R2 := R2.below b3
    have bxb := bxb.then b3
    have hb3 := below_then hb2 hb2.size b3
    have bxd := Box.new w3 138 #[.int .i64 (f1 : Int), .int .i64 (f2 : Int)]
    have d0 := bxd.cell 0
    have d1 := bxd.cell 1
    clear hb2 b3 bxd HLC HP R1 HH
    by_cases h0 : f2 = 0
    · subst h0
      rw [if_pos rfl] at HV
      have d0 : (w3.alloc (.cells #[.int .i64 (f1 : Int), .int .i64 0] 138)).cell? ⟨w3.heap.size, 0, none⟩ = some (.int .i64 (f1 : Int)) := d0
      have d1 : (w3.alloc (.cells #[.int .i64 (f1 : Int), .int .i64 0] 138)).cell? ⟨w3.heap.size, 1, none⟩ = some (.int .i64 0) := d1
      have R2 := hide (R2.alloc (.cells #[.int .i64 (f1 : Int), .int .i64 0] 138))
      have bxb := bxb.alloc (.cells #[.int .i64 (f1 : Int), .int .i64 0] 138)
      have hb3 := hb3.alloc hb3.size (.cells #[.int .i64 (f1 : Int), .int .i64 0] 138)
      have HX : Hid (VV = ((minTo n (dblTo Q [f1] Q.length) (dblTo Q [f1] Q.length).length : Nat) : Int)) := by
        have := HVV.out
        rw [HV.out] at this
        exact this.symm
      clear HV HVV
      have HDL := hide (fun k => dbl_len Q [f1] k)
      have HDB := hide (fun k j => dbl_lt (S := [f1]) hqb (fun k => by
        rcases k with _ | k
        · exact hfb
        · simp) k j)
      have HD0 := hide (show dblTo Q [f1] 0 = [f1] from rfl)
      have HDS := hide (fun k => show dblTo Q [f1] (k + 1) = dblTo Q [f1] k ++ (dblTo Q [f1] k).map (fun s => s ^^^ (Q[k]?.getD 0)) from rfl)
      have HQB := hide hqb
      obtain ⟨w4, hw4⟩ : ∃ w4, w3.alloc (.cells #[.int .i64 (f1 : Int), .int .i64 0] 138) = w4 := ⟨_, rfl⟩
      have hz4 : w4.heap.size = w3.heap.size + 1 := by rw [← hw4]; simp
      have O4 := hide (own_first (w := w4) (B := w4.heap.size) (x := f1) (Nat.le_refl _) rfl)
      have HB4 := hide ((Below.refl w4.heap.size w4).alloc (Nat.le_refl _) (.cells #[.int .i64 (f1 : Int)] 135))
      rw [hz4] at O4
      rw [hw4] at R2 bxb hb3
      have HW4 := hide hw4
      clear hw4 hqb
      go_wp2_with fail
      rw [HW4.out]
      clear d0 d1 HW4
      have hgb4 := bxb.in_
      go_loopw [12, 47] (fun v i wr => ∃ q : Nat, q ≤ Q.length ∧ i = .int .i64 (q : Int) ∧ wr.ownsRow w4.heap.size 135 1 v (dblTo Q [f1] q).length (ints (natI (dblTo Q [f1] q))) ∧ Below w4.heap.size w4 wr) (fun _ i _ => Q.length - (intOf i).toNat)
      case atStart => exact ⟨0, Nat.zero_le _, rfl, by rw [HD0.out]; rw [hz4]; exact O4.out, HB4.out⟩
      case round =>
        clear O4 HB4
        obtain ⟨q, hq, rfl, own, hb⟩ := hrel
        obtain ⟨wo, rfl⟩ : ∃ wo : World, wo = wr := ⟨_, rfl⟩
        have hlen := HDL.out q
        have hpow : 2 ^ q ≤ 8 := Nat.pow_le_pow_right (n := 2) (by omega) (show q ≤ 3 by omega)
        have hpw1 : 1 ≤ 2 ^ q := Nat.one_le_two_pow
        simp only [List.length_cons, List.length_nil, Nat.zero_add, Nat.one_mul] at hlen
        obtain ⟨gs, cs, rfl, gs1, gs2⟩ := own_addr own (by omega)
        by_cases hlt : q < Q.length
        · obtain ⟨ad, rfl, hck⟩ := (R2.out.below hb).int (k := q) (by rw [natI_len]; exact hlt)
          rw [natI_at] at hck
          have hyb := HQB.out q
          have hSB := hide (HDB.out q)
          have hDS := HDS.out q
          have HR := hide (own_reads own)
          generalize Q[q]?.getD 0 = y at *
          generalize hS : dblTo Q [f1] q = S at *
          have HOW := hide own
          have HDS' := hide hDS
          have q0 : (0 : Int) ≤ (q : Int) := by omega
          have q1 : (q : Int) < (Q.length : Int) := by omega
          clear own hS hDS hpw1
          have hS8 : S.length ≤ 8 := by omega
          clear hlen hpow
          go_wp2_with fail
          go_loopw [12, 53] (fun v i wi => ∃ j : Nat, j ≤ S.length ∧ i = .int .i64 (j : Int) ∧ wi.ownsRow w4.heap.size 135 1 v (S.length + j) (ints (natI (S ++ (S.take j).map fun s => s ^^^ y))) ∧ Row wi (some ⟨gs, 0, none⟩) (ints (natI S)) ∧ Below w4.heap.size w4 wi) (fun _ i _ => S.length - (intOf i).toNat)
          case atStart => exact ⟨0, Nat.zero_le _, rfl, by simpa using HOW.out, HR.out, hb⟩
          case round =>
            clear HOW HR hb
            obtain ⟨j, hj, rfl, own, hr, hb⟩ := hrel
            obtain ⟨wi, rfl⟩ : ∃ wi : World, wi = wr := ⟨_, rfl⟩
            by_cases hjl : j < S.length
            · obtain ⟨gv, cv, rfl, gv1, gv2⟩ := own_addr own (by omega)
              obtain ⟨_, ⟨rfl⟩, hcj⟩ := hr.int (k := j) (by rw [natI_len]; exact hjl)
              rw [natI_at, add0] at hcj
              have hsb := hSB.out j
              have HX := hide (fun w5 => addedP_c (S[j]?.getD 0) y hsb hyb w5)
              have HSn := hide (show S ++ (S.take (j + 1)).map (fun s => s ^^^ y) = (S ++ (S.take j).map fun s => s ^^^ y) ++ [S[j]?.getD 0 ^^^ y] by
                rw [List.take_succ_eq_append_getElem hjl, List.map_append, List.append_assoc, List.getElem?_eq_getElem hjl]
                rfl)
              generalize S[j]?.getD 0 = s at *
              generalize s ^^^ y = u at *
              have HT := hide (natI_front S ((S.take j).map fun s => s ^^^ y))
              generalize hT : (S ++ (S.take j).map fun s => s ^^^ y) = T at *
              clear hT
              have OA := hide (own.alloc (.cells #[.int .i64 (u : Int)] 135))
              have BA := hide (hb.alloc hb.size (.cells #[.int .i64 (u : Int)] 135))
              have RA := hide (hr.alloc (.cells #[.int .i64 (u : Int)] 135))
              have j0 : (0 : Int) ≤ (j : Int) := by omega
              have j1 : (j : Int) < (S.length : Int) := by omega
              clear own hb hr hsb
              go_wp2_with fail
              refine (HX.out _).mono ?_
              rintro e w5 ⟨rfl, rfl⟩
              go_wp2_with ((at_builtin; refine put_keep rfl (.tmp 57) (.tmp 61) rfl Tryz.underlying132 elem_ps rfl OA.out rfl (m := 1) (news := [.int .i64 (u : Int)]) rfl (row_new _ _ _ rfl) (by simp [Value.oneCell']) (by omega) (by omega) BA.out.size ?_; intro v6 w6 own6 hg6 hk6))
              rw [natI_snocL, ← HSn.out] at own6
              have RK : Row w6 (some ⟨gs, 0, none⟩) (ints (natI S)) := by
                by_cases e : gs = gv
                · subst e
                  rw [HT.out] at hk6
                  exact hk6.front
                · exact RA.out.grown hg6 (fun ad h' => by injection h' with h'; subst h'; intro h'; injection h' with h'; exact e h'.symm)
              have BK := BA.out.grown hg6 BA.out.size (fun z h' => by injection h' with h'; omega)
              exact ⟨⟨j + 1, hjl, by go_num, by rw [← Nat.add_assoc]; exact own6, RK, BK⟩, by simp [intOf]; omega⟩
            · obtain rfl : j = S.length := by omega
              rw [List.take_length, ← HDS'.out] at own
              have hll : S.length + S.length = (dblTo Q [f1] (q + 1)).length := by rw [HDS'.out]; simp
              rw [hll] at own
              have Y1 := hide own
              have Y2 := hide hb
              clear own hb hr hll
              go_wp2_with fail
              go_round
              case rel => exact ⟨q + 1, hlt, by go_num, Y1.out, Y2.out⟩
              case measure => simp [intOf]; omega
        · obtain rfl : q = Q.length := by omega
          have hSB := hide (HDB.out Q.length)
          have HR := hide (own_reads own)
          generalize hS : dblTo Q [f1] Q.length = S at *
          have hS8 : S.length ≤ 8 := by omega
          have bx := bxb.below hb bxb.in_
          have b0 := bx.cell 0
          have b1 := bx.cell 1
          have HM0 := hide (show minTo n S 0 = n from rfl)
          have HMS := hide (fun k => show minTo n S (k + 1) = min (minTo n S k) (pcN 12 (S[k]?.getD 0)) from rfl)
          have HML := hide (fun k => minTo_le n S k)
          clear own hS hlen hpow hpw1 hq HDS HDB HDL HD0
          go_wp2_with fail
          refine (HZ.out _).mono ?_
          rintro e w6 ⟨rfl, b6⟩
          have HR := hide (HR.out.below b6)
          have hb6 := below_then hb hb.size b6
          clear b0 b1 bx hb b6
          go_wp2_with fail
          go_loopw [17, 69] (fun a i wi => ∃ k : Nat, k ≤ S.length ∧ i = .int .i64 (k : Int) ∧ a = .int .i64 ((minTo n S k : Nat) : Int) ∧ w6 = wi) (fun _ i _ => S.length - (intOf i).toNat)
          case atStart => exact ⟨0, Nat.zero_le _, rfl, by rw [HM0.out], rfl⟩
          case round =>
            obtain ⟨k, hk, rfl, rfl, rfl⟩ := hrel
            by_cases hkl : k < S.length
            · obtain ⟨_, ⟨rfl⟩, hck⟩ := HR.out.int (k := k) (by rw [natI_len]; exact hkl)
              rw [natI_at, add0] at hck
              have hsb := hSB.out k
              have hpm := pcN_most 12 (S[k]?.getD 0)
              have HSZ := hide (fun w5 => sizeOf_12 (S[k]?.getD 0) hsb w5)
              have HMk := hide (HMS.out k)
              have hml := HML.out k
              generalize S[k]?.getD 0 = s at *
              generalize pcN 12 s = pv at *
              generalize minTo n S k = a at *
              obtain ⟨mm, hmm⟩ : ∃ mm, min a pv = mm := ⟨_, rfl⟩
              rw [hmm] at HMk
              have hm1 : min (a : Int) (pv : Int) = (mm : Int) := by rw [← hmm]; omega
              have hm2 : (if (pv : Int) < (a : Int) then (pv : Int) else (a : Int)) = (mm : Int) := by rw [← hmm]; split <;> omega
              have k0 : (0 : Int) ≤ (k : Int) := by omega
              have k1 : (k : Int) < (S.length : Int) := by omega
              clear hmm hsb
              go_wp2_with fail
              refine (HSZ.out _).mono ?_
              rintro e w7 ⟨rfl, rfl⟩
              go_wp2_with fail
              exact ⟨⟨k + 1, hkl, by go_num, by rw [HMk.out], trivial⟩, by simp [intOf]; omega⟩
            · obtain rfl : k = S.length := by omega
              go_wp2_with fail
              go_ret
              exact ⟨by rw [HX.out]; rfl, below_then hb3 hb3.size hb6⟩
    · rw [if_neg h0] at HV
      have hnz : ((f2 : Int) != 0) = true := by rw [bne_iff_ne]; omega
      have HX : Hid (VV = -1) := by
        have := HVV.out
        rw [HV.out] at this
        exact this.symm
      clear h0 HV HVV
      go_wp2_with fail
      go_ret
      exact ⟨by rw [HX.out]; rfl, hb3.alloc hb3.size _⟩
  · have hv : fewVL bc br x = -1 := by
      unfold fewVL
      refine if_neg fun h' => ?_
      rcases hN with hN | hN
      · refine hN fun i hi => ?_
        simp at hi
        subst hi
        exact h'
      · exact hN h'.1
    rw [hv]
    have HC := hide hC
    clear HLB hN hC hv
    go_enter Tryz.func60, Tryz.ntmps60
    go_wp2_with fail
    refine HC.out.mono ?_
    rintro e w1 ⟨rfl, b1⟩
    have hb1 : Below W.heap.size W w1 := below_then ((Below.refl _ _).alloc (Nat.le_refl _) _) (by simp) b1
    go_wp2_with fail
    go_ret
    exact ⟨rfl, hb1.alloc hb1.size _⟩
end Go.Proofs.YtmfdlijkpdgimaaGreatDoor
