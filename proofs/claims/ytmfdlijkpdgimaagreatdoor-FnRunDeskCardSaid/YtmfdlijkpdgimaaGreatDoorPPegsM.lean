/-
  PPegA, PPegB, PPegC, PPegD, PPegE, PPegL, PPegF in one text.
-/
import Derived.Test.YtmfdlijkpdgimaaGreatDoorMovesM
import Derived.Test.YtmfdlijkpdgimaaGreatDoorPegsM
import Derived.Deep.RegionHeld3
import Derived.Lib.MinMax
import Derived.Maps.OwnOps
import Derived.Maps.OwnSet
import Derived.Maps.Views
/-
  The program's pegs: words of boards, of litBoard, of sizes of sets.
-/
namespace Go.Proofs.YtmfdlijkpdgimaaGreatDoor
open Go.RowKit
set_option linter.unusedVariables false

theorem onward_anyP (bc br cell dr dc : Int) (w : World) (h1 : 1 ≤ bc) (h2 : bc ≤ 5) (h3 : 1 ≤ br) (h4 : br ≤ 5) (g1 : 0 ≤ cell) (g2 : cell < 25) (g3 : -2 ≤ dr) (g4 : dr ≤ 2) (g5 : -2 ≤ dc) (g6 : dc ≤ 2) :
    Calls Tryz.prog 139 #[boardV bc br, .int .i64 cell, .agg #[.int .i64 dr, .int .i64 dc]] w (Plain (.tuple #[.int .i64 (onP (nextP bc br dr dc cell)).1, .bool (onP (nextP bc br dr dc cell)).2]) w) := by
  unfold nextP
  by_cases h : 0 ≤ cell / bc + dr ∧ cell / bc + dr < br ∧ 0 ≤ cell % bc + dc ∧ cell % bc + dc < bc
  · rw [if_pos h]
    obtain ⟨a, b, c, d⟩ := h
    exact onward_yes bc br cell dr dc w h1 h2 h3 h4 g1 g2 g3 g4 g5 g6 a b c d
  · rw [if_neg h]
    exact onward_no bc br cell dr dc w h1 h2 h3 h4 g1 g2 g3 g4 g5 g6 h
/-- The address is a plain one. -/
def FlatP (O : Option Addr) : Prop := ∀ ad, O = some ad → ∃ b off, ad = ⟨b, off, none⟩
theorem contains_cP (O : Option Addr) (l : List Int) (oc : Nat) (x : Int) (w : World) (hr : Row w O (ints l)) (hf : FlatP O) (hm : l.length ≤ maxLen) :
    Calls Tryz.prog 145 #[.slice O l.length oc, .int .i64 x] w (Plain (.bool (l.contains x)) w) := by
  rcases l with _ | ⟨y, l⟩
  · exact (Tryz.slices_Contains_int_empty O oc x w).mono fun e w' ⟨he, hw⟩ => ⟨he, hw ▸ Below.refl _ _⟩
  · obtain ⟨ad, rfl, _⟩ := hr 0 (by simp)
    obtain ⟨b, off, rfl⟩ := hf ad rfl
    unfold maxLen at hm
    refine (Tryz.slices_Contains_int b off (y :: l).length oc (y :: l) x w (Nat.le_refl _) (by omega) fun j hj => ?_).mono fun e w' ⟨he, hw⟩ => ⟨by simpa using he, hw ▸ Below.refl _ _⟩
    obtain ⟨_, ⟨rfl⟩, hc⟩ := hr.int hj
    rw [← List.getD_eq_getElem?_getD] at hc
    rw [← hc]
    unfold Addr.add
    split
    · subst_vars; rfl
    · rfl
theorem allOf12_cP (n : Nat) (h : n ≤ 12) (w : World) : Calls Tryz.prog 104 #[.int .i64 (n : Int)] w fun e w' => e = .returned (.int .i64 (((2 ^ n : Nat) : Int) - 1)) ∧ w = w' := by
  have es := shl64 n (by omega)
  have hp := pow12 h
  generalize (2 ^ n : Nat) = P at *
  go_enter Tryz.func104, Tryz.ntmps104
  go_wp2
  go_ret
  exact ⟨rfl, rfl⟩
theorem boardEndP {w : World} {g : Nat} {t : TypeId} {x y u v : Value} (h : Box w g t #[x, y]) :
    w.cell? ⟨g, 0, none⟩ = some x ∧ w.frozen? ⟨g, 0, none⟩ = false ∧ (w.setCell ⟨g, 0, none⟩ u).cell? ⟨g, 0, none⟩ = some u ∧ (w.setCell ⟨g, 0, none⟩ u).cell? ⟨g, 1, none⟩ = some y ∧ (w.setCell ⟨g, 0, none⟩ u).frozen? ⟨g, 1, none⟩ = false ∧
    ((w.setCell ⟨g, 0, none⟩ u).setCell ⟨g, 1, none⟩ v).cell? ⟨g, 0, none⟩ = some u ∧ ((w.setCell ⟨g, 0, none⟩ u).setCell ⟨g, 1, none⟩ v).cell? ⟨g, 1, none⟩ = some v :=
  ⟨h.cell 0, h.free 0, (h.set 0 u).cell 0, (h.set 0 u).cell 1, (h.set 0 u).free 1, ((h.set 0 u).set 1 v).cell 0, ((h.set 0 u).set 1 v).cell 1⟩
def InSP (n : Nat) (s : Int) : Prop := 0 ≤ s ∧ s ≤ ((2 ^ n : Nat) : Int) - 1
instance (n : Nat) (s : Int) : Decidable (InSP n s) := by unfold InSP; infer_instance
def SetsNP (n : Nat) (l : List Int) (k : Nat) : Prop := ∀ i, i < k → InSP n (l[i]?.getD 0)
set_option maxHeartbeats 1000000 in
theorem litBoard_no1P (bc br : Int) (A : Option Addr) (l c : Nat) (W : World) (hn : ¬ Brd bc br) :
    Calls Tryz.prog 80 #[.int .i64 bc, .int .i64 br, .slice A l c] W (Plain (.tuple #[boardV 0 0, .bool false]) W) := by
  have box0 := Box.new W 40 #[.int .i64 0, .int .i64 0]
  have HB := hide (fun w5 => boardOf_no bc br w5 hn)
  clear hn
  go_enter Tryz.func80, Tryz.ntmps80
  go_wp2_with fail
  refine (HB.out _).mono ?_
  rintro e w1 ⟨rfl, hb1⟩
  obtain ⟨c1, c2, c3, c4, c5, c6, c7⟩ := boardEndP (u := .int .i64 0) (v := .int .i64 0) (box0.then hb1)
  have bxe := (((box0.then hb1).set 0 (.int .i64 0)).set 1 (.int .i64 0)).alloc (.cells #[.int .i64 0, .int .i64 0] 40)
  have d0 := bxe.cell 0
  have d1 := bxe.cell 1
  simp only [List.setIfInBounds_toArray] at d0 d1
  have z1 : W.heap.size < w1.heap.size := by have := hb1.size; simp at this; omega
  go_wp2_with fail
  refine bodyPost_ret (v := .tuple #[boardV 0 0, .bool false]) (by simp [results, Tryz.results80, go_sem, d0, d1]) rfl ⟨rfl, ?_⟩
  exact (((below_then ((Below.refl _ _).alloc (Nat.le_refl _) _) (by simp) hb1).setCell (Nat.le_refl _) _).setCell (Nat.le_refl _) _).alloc (by simp; omega) _
set_option maxHeartbeats 1000000 in
theorem litBoard_no2P (bc br : Int) (A : Option Addr) (l c : Nat) (W : World) (hB : Brd bc br) (hn : ¬ bc * br ≤ 12) :
    Calls Tryz.prog 80 #[.int .i64 bc, .int .i64 br, .slice A l c] W (Plain (.tuple #[boardV 0 0, .bool false]) W) := by
  obtain ⟨h1, h2, h3, h4⟩ := hB
  have box0 := Box.new W 40 #[.int .i64 0, .int .i64 0]
  have HB := hide (fun w5 => boardOf_yes bc br w5 h1 h2 h3 h4)
  have HZ := hide (fun w5 => size_c bc br w5 h1 h2 h3 h4)
  obtain ⟨m, hm⟩ : ∃ m, bc * br = m := ⟨_, rfl⟩
  rw [hm] at HZ hn
  clear hm
  go_enter Tryz.func80, Tryz.ntmps80
  go_wp2_with fail
  refine (HB.out _).mono ?_
  rintro e w1 ⟨rfl, hb1⟩
  have box1 := (box0.then hb1).alloc (.cells #[.int .i64 bc, .int .i64 br] 40)
  have hb1 : Below W.heap.size W w1 := below_then ((Below.refl _ _).alloc (Nat.le_refl _) _) (by simp) hb1
  go_wp2_with fail
  refine (HZ.out _).mono ?_
  rintro e w2 ⟨rfl, hb2⟩
  obtain ⟨c1, c2, c3, c4, c5, c6, c7⟩ := boardEndP (u := .int .i64 0) (v := .int .i64 0) (box1.then hb2)
  go_wp2_with fail
  refine bodyPost_ret (v := .tuple #[boardV 0 0, .bool false]) (by simp [results, Tryz.results80, go_sem, c6, c7]) rfl ⟨rfl, ?_⟩
  exact ((below_then (hb1.alloc hb1.size _) (by have := hb1.size; simp; omega) hb2).setCell (Nat.le_refl _) _).setCell (Nat.le_refl _) _
instance (n : Nat) (l : List Int) (k : Nat) : Decidable (SetsNP n l k) := by unfold SetsNP; infer_instance
/-- What litBoard answers for a board that is small. -/
def litOfP (w h : Nat) (l : List Int) : Value := if SetsNP (w * h) l l.length then .tuple #[boardV (w : Int) (h : Int), .bool true] else .tuple #[boardV 0 0, .bool false]
set_option maxHeartbeats 4000000 in
set_option maxRecDepth 100000 in
theorem litBoard_yesP (w h : Nat) (A : Option Addr) (c : Nat) (l : List Int) (W : World) (hr : Row W A (ints l)) (hw : 1 ≤ w ∧ w ≤ 5) (hh : 1 ≤ h ∧ h ≤ 5) (h12 : w * h ≤ 12) (hm : l.length ≤ 1000) :
    Calls Tryz.prog 80 #[.int .i64 (w : Int), .int .i64 (h : Int), .slice A l.length c] W (Plain (litOfP w h l) W) := by
  have w1 : (1 : Int) ≤ (w : Int) := by omega
  have w5 : (w : Int) ≤ 5 := by omega
  have h1 : (1 : Int) ≤ (h : Int) := by omega
  have h5 : (h : Int) ≤ 5 := by omega
  have box0 := Box.new W 40 #[.int .i64 0, .int .i64 0]
  have HB := hide (fun w5' => boardOf_yes (w : Int) (h : Int) w5' w1 w5 h1 h5)
  have HZ := hide (fun w6 => by
    have := size_c (w : Int) (h : Int) w6 w1 w5 h1 h5
    rw [← Int.natCast_mul] at this
    exact this)
  have HF := hide (fun w6 => allOf12_cP (w * h) h12 w6)
  have HR := hide hr
  have hp := pow12 h12
  have HY : Hid (SetsNP (w * h) l l.length → litOfP w h l = .tuple #[boardV (w : Int) (h : Int), .bool true]) := fun h' => if_pos h'
  have HNo : Hid (¬ SetsNP (w * h) l l.length → litOfP w h l = .tuple #[boardV 0 0, .bool false]) := fun h' => if_neg h'
  have hin : Hid (∀ s, InSP (w * h) s ↔ 0 ≤ s ∧ s ≤ ((2 ^ (w * h) : Nat) : Int) - 1) := fun s => Iff.rfl
  generalize litOfP w h l = V at *
  generalize w * h = n at *
  generalize (2 ^ n : Nat) = P at *
  have n12 : (n : Int) ≤ 12 := by omega
  clear hr
  go_enter Tryz.func80, Tryz.ntmps80
  go_wp2_with fail
  refine (HB.out _).mono ?_
  rintro e w1' ⟨rfl, hb1⟩
  have box1 := (box0.then hb1).alloc (.cells #[.int .i64 (w : Int), .int .i64 (h : Int)] 40)
  have boxb := Box.new w1' 40 #[.int .i64 (w : Int), .int .i64 (h : Int)]
  have hb1 : Below W.heap.size W w1' := below_then ((Below.refl _ _).alloc (Nat.le_refl _) _) (by simp) hb1
  go_wp2_with fail
  refine (HZ.out _).mono ?_
  rintro e w2 ⟨rfl, hb2⟩
  have box2 := box1.then hb2
  have boxb2 := boxb.then hb2
  have zb1 := hb1.size
  have hb2 := below_then (hb1.alloc hb1.size _) (by have := hb1.size; simp; omega) hb2
  obtain ⟨gb, hgb⟩ : ∃ gb, w1'.heap.size = gb := ⟨_, rfl⟩
  rw [hgb] at boxb2 zb1 ⊢
  clear hb1 box0 box1 boxb HB hgb
  have zb2 : W.heap.size < gb := by
    rcases Nat.lt_or_ge W.heap.size gb with h' | h'
    · exact h'
    · have e : gb = W.heap.size := by omega
      subst e
      have := box2.symm.trans boxb2
      simp at this
      omega
  go_wp2_with fail
  go_loopw [28] (fun i wr => ∃ k : Nat, k ≤ l.length ∧ i = .int .i64 (k : Int) ∧ SetsNP n l k ∧ Below W.heap.size W wr ∧ Box wr W.heap.size 40 #[.int .i64 0, .int .i64 0] ∧ Box wr gb 40 #[.int .i64 (w : Int), .int .i64 (h : Int)]) (fun i _ => l.length - (intOf i).toNat)
  case atStart => exact ⟨0, Nat.zero_le _, rfl, fun i hi => absurd hi (by omega), hb2, box2, boxb2⟩
  case round =>
    obtain ⟨k, hk, rfl, hS, hb, bx, bxb⟩ := hrel
    obtain ⟨wo, rfl⟩ : ∃ wo : World, wo = wr := ⟨_, rfl⟩
    have zo := hb.size
    have b0 := bxb.cell 0
    have b1 := bxb.cell 1
    by_cases hlt : k < l.length
    · obtain ⟨ad, rfl, hck⟩ := (HR.out.below hb).int (k := k) hlt
      have HSk : Hid (InSP n (l[k]?.getD 0) → SetsNP n l (k + 1)) := fun h' i hi => by
        by_cases e : i = k
        · subst e; exact h'
        · exact hS i (by omega)
      have HSn : Hid (¬ InSP n (l[k]?.getD 0) → ¬ SetsNP n l l.length) := fun h' hs => h' (hs k hlt)
      generalize l[k]?.getD 0 = x at *
      have k0 : (0 : Int) ≤ (k : Int) := by omega
      have k1 : (k : Int) < (l.length : Int) := by omega
      have HS := hide hS
      clear hS
      by_cases x0 : x < 0
      · have hV := HNo.out (HSn.out (fun h' => by have := (hin.out x).1 h'; omega))
        obtain ⟨c1, c2, c3, c4, c5, c6, c7⟩ := boardEndP (u := .int .i64 0) (v := .int .i64 0) bx
        go_wp2_with fail
        refine bodyPost_ret (v := .tuple #[boardV 0 0, .bool false]) (by simp [results, Tryz.results80, go_sem, c6, c7]) rfl ⟨by rw [hV], ?_⟩
        exact (hb.setCell (Nat.le_refl _) _).setCell (Nat.le_refl _) _
      · have x0' : 0 ≤ x := by omega
        by_cases xP : x ≤ (P : Int) - 1
        · have HT := hide (HSk.out ((hin.out x).2 ⟨x0', xP⟩))
          go_wp2_with fail
          refine (HZ.out _).mono ?_
          rintro e w3 ⟨rfl, hb3⟩
          go_wp2_with fail
          refine (HF.out _).mono ?_
          rintro e w4 ⟨rfl, rfl⟩
          have bx3 := bx.then hb3
          have bxb3 := bxb.then hb3
          have hb3 := below_then hb hb.size hb3
          go_wp2_with fail
          exact ⟨⟨k + 1, hlt, by go_num, HT.out, hb3, bx3, bxb3⟩, by simp [intOf]; omega⟩
        · have hV := HNo.out (HSn.out (fun h' => by have := (hin.out x).1 h'; omega))
          go_wp2_with fail
          refine (HZ.out _).mono ?_
          rintro e w3 ⟨rfl, hb3⟩
          go_wp2_with fail
          refine (HF.out _).mono ?_
          rintro e w4 ⟨rfl, rfl⟩
          obtain ⟨c1, c2, c3, c4, c5, c6, c7⟩ := boardEndP (u := .int .i64 0) (v := .int .i64 0) (bx.then hb3)
          have hb3 := below_then hb hb.size hb3
          go_wp2_with fail
          refine bodyPost_ret (v := .tuple #[boardV 0 0, .bool false]) (by simp [results, Tryz.results80, go_sem, c6, c7]) rfl ⟨by rw [hV], ?_⟩
          exact (hb3.setCell (Nat.le_refl _) _).setCell (Nat.le_refl _) _
    · obtain rfl : k = l.length := by omega
      have hV := HY.out hS
      obtain ⟨c1, c2, c3, c4, c5, c6, c7⟩ := boardEndP (u := .int .i64 (w : Int)) (v := .int .i64 (h : Int)) bx
      go_wp2_with fail
      refine bodyPost_ret (v := .tuple #[boardV (w : Int) (h : Int), .bool true]) (by simp [results, Tryz.results80, go_sem, c6, c7]) rfl ⟨by rw [hV], ?_⟩
      exact (hb.setCell (Nat.le_refl _) _).setCell (Nat.le_refl _) _
theorem litOf_yesP {w h : Nat} {l : List Int} (hs : SetsNP (w * h) l l.length) : litOfP w h l = .tuple #[boardV (w : Int) (h : Int), .bool true] := if_pos hs
theorem litOf_noP {w h : Nat} {l : List Int} (hs : ¬ SetsNP (w * h) l l.length) : litOfP w h l = .tuple #[boardV 0 0, .bool false] := if_neg hs
theorem inS_natP {n x : Nat} (h : x < 2 ^ n) : InSP n (x : Int) := ⟨by omega, by omega⟩
theorem inS_litP {w h : Nat} {s : Int} (hw : 1 ≤ w ∧ w ≤ 5) (hh : 1 ≤ h ∧ h ≤ 5) (h12 : w * h ≤ 12) : PegS (w : Int) (h : Int) s ↔ InSP (w * h) s := by
  unfold PegS InSP
  rw [← Int.natCast_mul, Int.toNat_natCast]
  exact ⟨fun h' => h'.2, fun h' => ⟨lit12P hw hh h12, h'⟩⟩
/-- litBoard, of whatever sets. -/
theorem litBoard_cP (bc br : Int) (A : Option Addr) (c : Nat) (l : List Int) (W : World) (hr : Row W A (ints l)) (hm : l.length ≤ 1000) :
    (∃ w h : Nat, bc = (w : Int) ∧ br = (h : Int) ∧ (1 ≤ w ∧ w ≤ 5) ∧ (1 ≤ h ∧ h ≤ 5) ∧ w * h ≤ 12 ∧ SetsNP (w * h) l l.length ∧ Calls Tryz.prog 80 #[.int .i64 bc, .int .i64 br, .slice A l.length c] W (Plain (.tuple #[boardV (w : Int) (h : Int), .bool true]) W)) ∨
    ((¬ ∀ i, i < l.length → PegS bc br (l[i]?.getD 0)) ∨ ¬ Lit12 bc br) ∧ Calls Tryz.prog 80 #[.int .i64 bc, .int .i64 br, .slice A l.length c] W (Plain (.tuple #[boardV 0 0, .bool false]) W) := by
  by_cases hB : Brd bc br
  · by_cases h12 : bc * br ≤ 12
    · obtain ⟨h1, h2, h3, h4⟩ := hB
      obtain ⟨w, rfl⟩ := Int.eq_ofNat_of_zero_le (show 0 ≤ bc by omega)
      obtain ⟨h, rfl⟩ := Int.eq_ofNat_of_zero_le (show 0 ≤ br by omega)
      have h12' : w * h ≤ 12 := by rw [← Int.natCast_mul] at h12; omega
      have := litBoard_yesP w h A c l W hr (by omega) (by omega) h12' hm
      by_cases hs : SetsNP (w * h) l l.length
      · rw [litOf_yesP hs] at this
        exact .inl ⟨w, h, rfl, rfl, by omega, by omega, h12', hs, this⟩
      · rw [litOf_noP hs] at this
        exact .inr ⟨.inl fun h' => hs fun i hi => (inS_litP (by omega) (by omega) h12').1 (h' i hi), this⟩
    · exact .inr ⟨.inr fun h => h12 h.2, litBoard_no2P bc br A l.length c W hB h12⟩
  · exact .inr ⟨.inr fun h => hB h.1, litBoard_no1P bc br A l.length c W hB⟩
set_option maxRecDepth 100000 in
theorem ones64_12P (t : Nat) (ht : t < 4096) (w : World) : Calls Tryz.prog 138 #[.int .u64 (t : Int)] w fun e w' => e = .returned (.int .i64 ((pcN 12 t : Nat) : Int)) ∧ w = w' := by
  go_enter Tryz.func138, Tryz.ntmps138
  go_wp2_with fail
  go_ret
  refine ⟨?_, rfl⟩
  refine (show Ending.returned (.int .i64 _) = _ from ret_int (k := .i64) ?_)
  obtain ⟨a, b, rfl⟩ : ∃ a b : Fin 64, a.val * 64 + b.val = t := ⟨⟨t / 64, by omega⟩, ⟨t % 64, by omega⟩, by simp only; omega⟩
  clear ht
  revert b
  revert a
  decide +kernel
theorem ones_12P (t : Nat) (ht : t < 4096) (w : World) : Calls Tryz.prog 107 #[.int .u64 (t : Int)] w fun e w' => e = .returned (.int .i64 ((pcN 12 t : Nat) : Int)) ∧ w = w' := by
  have H := hide (fun w5 => ones64_12P t ht w5)
  go_enter Tryz.func107, Tryz.ntmps107
  go_wp2_with fail
  refine (H.out _).mono ?_
  rintro e w1 ⟨rfl, rfl⟩
  go_wp2_with fail
  go_ret
  exact ⟨rfl, rfl⟩
theorem sizeOf_12P (t : Nat) (ht : t < 4096) (w : World) : Calls Tryz.prog 85 #[.int .i64 (t : Int)] w fun e w' => e = .returned (.int .i64 ((pcN 12 t : Nat) : Int)) ∧ w = w' := by
  have H := hide (fun w5 => ones_12P t ht w5)
  have e0 : IntKind.u64.wrap (t : Int) = (t : Int) := IntWalk.u64_in _ (by omega)
  go_enter Tryz.func85, Tryz.ntmps85
  go_wp2_with fail
  refine (H.out _).mono ?_
  rintro e w1 ⟨rfl, rfl⟩
  go_wp2_with fail
  go_ret
  exact ⟨rfl, rfl⟩
end Go.Proofs.YtmfdlijkpdgimaaGreatDoor

/-
  The program's pegs: both, isOf, behind.
-/
namespace Go.Proofs.YtmfdlijkpdgimaaGreatDoor
open Go.RowKit
set_option linter.unusedVariables false

abbrev jumpA (i o l : Int) : Value := .agg #[.int .i64 i, .int .i64 o, .int .i64 l]
theorem or_lt12 {a b : Nat} (ha : a < 4096) (hb : b < 4096) : a ||| b < 4096 := Nat.or_lt_two_pow (n := 12) ha hb
set_option maxHeartbeats 400000 in
theorem both_c (i o l : Nat) (hi : i < 12) (ho : o < 12) (W : World) : Calls Tryz.prog 141 #[jumpA i o l] W (Plain (.int .i64 ((2 ^ i ||| 2 ^ o : Nat) : Int)) W) := by
  have e1 := shl64 i (by omega)
  have e2 := shl64 o (by omega)
  have p1 := (pow64 (k := i) (by omega)).2
  have p2 := (pow64 (k := o) (by omega)).2
  have e3 := or64 (2 ^ i) (2 ^ o) p1 p2
  have i0 : (0 : Int) ≤ (i : Int) := by omega
  have o0 : (0 : Int) ≤ (o : Int) := by omega
  have i64 : (i : Int) < 64 := by omega
  have o64 : (o : Int) < 64 := by omega
  generalize 2 ^ i ||| 2 ^ o = B at *
  generalize (2 ^ i : Nat) = P at *
  generalize (2 ^ o : Nat) = Q at *
  go_enter Tryz.func141, Tryz.ntmps141
  go_wp2_with fail
  go_quiet (fail)
  go_wp2_with fail
  go_ret
  exact ⟨rfl, below_drewN ((Below.refl _ _).alloc (Nat.le_refl _) _) _⟩
set_option maxHeartbeats 1000000 in
set_option maxRecDepth 100000 in
theorem isOf_c (i o l s : Nat) (hi : i < 12) (ho : o < 12) (hl : l < 12) (hs : s < 4096) (W : World) : Calls Tryz.prog 140 #[jumpA i o l, .int .i64 (s : Int)] W (Plain (.bool (isP s (i, o, l))) W) := by
  have HB := hide (fun w5 => both_c i o l hi ho w5)
  have e1 := shl64 l (by omega)
  have pw : ∀ k, k < 12 → 2 ^ k < 4096 := fun k hk => Nat.pow_lt_pow_right (a := 2) (n := 12) (by omega) hk
  have b1 := or_lt12 (pw i hi) (pw o ho)
  have b2 := or_lt12 b1 (pw l hl)
  have b3 := pw l hl
  have b4 : s &&& (2 ^ i ||| 2 ^ o ||| 2 ^ l) < 4096 := Nat.lt_of_le_of_lt Nat.and_le_left hs
  have hv : isP s (i, o, l) = ((s &&& (2 ^ i ||| 2 ^ o ||| 2 ^ l)) == (2 ^ i ||| 2 ^ o)) := rfl
  rw [hv]
  have l0 : (0 : Int) ≤ (l : Int) := by omega
  have l64 : (l : Int) < 64 := by omega
  clear pw hv
  generalize (2 ^ i ||| 2 ^ o : Nat) = B at *
  have e2 := or64 B (2 ^ l) (by omega) (by omega)
  generalize (2 ^ l : Nat) = L at *
  have e3 := and64 s (B ||| L) (by omega) (by omega)
  generalize (B ||| L : Nat) = M at *
  generalize (s &&& M : Nat) = X at *
  have hq := hide (show ((X : Int) == (B : Int)) = (X == B) by rw [Bool.eq_iff_iff, beq_iff_eq, beq_iff_eq]; omega)
  clear hi ho hl
  go_enter Tryz.func140, Tryz.ntmps140
  go_wp2_with fail
  have bx0 := Box.new W 167 #[.int .i64 (i : Int), .int .i64 (o : Int), .int .i64 (l : Int)]
  have hbd : Below W.heap.size W (W.alloc (.cells #[.int .i64 (i : Int), .int .i64 (o : Int), .int .i64 (l : Int)] 167)).drew := ((Below.refl _ _).alloc (Nat.le_refl _) _).drew
  have bxd : Box (W.alloc (.cells #[.int .i64 (i : Int), .int .i64 (o : Int), .int .i64 (l : Int)] 167)).drew W.heap.size 167 #[.int .i64 (i : Int), .int .i64 (o : Int), .int .i64 (l : Int)] := bx0
  have k0 := bxd.cell 0
  have k1 := bxd.cell 1
  have k2 := bxd.cell 2
  go_region_held3 (fun w' => w'.cell? ⟨W.heap.size, 0, none⟩ = some (.int .i64 (i : Int)) ∧ w'.cell? ⟨W.heap.size, 1, none⟩ = some (.int .i64 (o : Int)) ∧ w'.cell? ⟨W.heap.size, 2, none⟩ = some (.int .i64 (l : Int))) (go_keep)
    (first
      | (go_at_call 141; refine (HB.out _).mono ?_
         rintro e w1 ⟨rfl, b5⟩
         have bx1 := bxd.then b5
         have k10 := bx1.cell 0
         have k11 := bx1.cell 1
         have k12 := bx1.cell 2
         have hb1 := below_then hbd hbd.size b5
         clear b5)
      | (go_at_call 141; refine (HB.out _).mono ?_
         rintro e w2 ⟨rfl, b6⟩
         have bx2 := bx1.then b6
         have k20 := bx2.cell 0
         have k21 := bx2.cell 1
         have k22 := bx2.cell 2
         have hb2 := below_then hb1 hb1.size b6
         clear b6)
      | fail)
  go_wp2_with fail
  go_ret
  exact ⟨show Ending.returned (.bool ((X : Int) == (B : Int))) = _ by rw [hq.out], hb2⟩
set_option maxHeartbeats 1000000 in
set_option maxRecDepth 100000 in
theorem jbehind_c (i o l s : Nat) (hi : i < 12) (ho : o < 12) (hl : l < 12) (hs : s < 4096) (W : World) : Calls Tryz.prog 109 #[jumpA i o l, .int .i64 (s : Int)] W (Plain (.int .i64 ((notP s (2 ^ i ||| 2 ^ o) ||| 2 ^ l : Nat) : Int)) W) := by
  have HB := hide (fun w5 => both_c i o l hi ho w5)
  have e1 := shl64 l (by omega)
  have pw : ∀ k, k < 12 → 2 ^ k < 4096 := fun k hk => Nat.pow_lt_pow_right (a := 2) (n := 12) (by omega) hk
  have b1 := or_lt12 (pw i hi) (pw o ho)
  have b3 := pw l hl
  have l0 : (0 : Int) ≤ (l : Int) := by omega
  have l64 : (l : Int) < 64 := by omega
  clear pw
  generalize (2 ^ i ||| 2 ^ o : Nat) = B at *
  have e2 := not64 s B (by omega) (by omega)
  have b4 : notP s B < 4096 := notP_lt (n := 12) B hs
  generalize (2 ^ l : Nat) = L at *
  generalize notP s B = M at *
  have e3 := or64 M L (by omega) (by omega)
  generalize (M ||| L : Nat) = X at *
  clear hi ho hl
  go_enter Tryz.func109, Tryz.ntmps109
  go_wp2_with fail
  have bx0 := Box.new W 167 #[.int .i64 (i : Int), .int .i64 (o : Int), .int .i64 (l : Int)]
  have hbd : Below W.heap.size W (W.alloc (.cells #[.int .i64 (i : Int), .int .i64 (o : Int), .int .i64 (l : Int)] 167)).drew := ((Below.refl _ _).alloc (Nat.le_refl _) _).drew
  have bxd : Box (W.alloc (.cells #[.int .i64 (i : Int), .int .i64 (o : Int), .int .i64 (l : Int)] 167)).drew W.heap.size 167 #[.int .i64 (i : Int), .int .i64 (o : Int), .int .i64 (l : Int)] := bx0
  have k0 := bxd.cell 0
  have k1 := bxd.cell 1
  have k2 := bxd.cell 2
  go_region_held3 (fun w' => w'.cell? ⟨W.heap.size, 0, none⟩ = some (.int .i64 (i : Int)) ∧ w'.cell? ⟨W.heap.size, 1, none⟩ = some (.int .i64 (o : Int)) ∧ w'.cell? ⟨W.heap.size, 2, none⟩ = some (.int .i64 (l : Int))) (go_keep)
    (first
      | (go_at_call 141; refine (HB.out _).mono ?_
         rintro e w1 ⟨rfl, b5⟩
         have bx1 := bxd.then b5
         have k10 := bx1.cell 0
         have k11 := bx1.cell 1
         have k12 := bx1.cell 2
         have hb1 := below_then hbd hbd.size b5
         clear b5)
      | fail)
  go_wp2_with fail
  go_ret
  exact ⟨rfl, hb1⟩
end Go.Proofs.YtmfdlijkpdgimaaGreatDoor

/-
  The program's pegs: jumpsOf.
-/
namespace Go.Proofs.YtmfdlijkpdgimaaGreatDoor
open Go.RowKit
set_option linter.unusedVariables false

def cells3 (L : List Jump) : List Value := L.flatMap fun j => [.int .i64 (j.1 : Int), .int .i64 (j.2.1 : Int), .int .i64 (j.2.2 : Int)]
theorem cells3_app (L M : List Jump) : cells3 (L ++ M) = cells3 L ++ cells3 M := by simp [cells3]
theorem cells3_len (L : List Jump) : (cells3 L).length = L.length * 3 := by
  induction L with
  | nil => rfl
  | cons j L ih =>
    rw [show cells3 (j :: L) = [.int .i64 (j.1 : Int), .int .i64 (j.2.1 : Int), .int .i64 (j.2.2 : Int)] ++ cells3 L from rfl, List.length_append, ih]
    simp only [List.length_cons, List.length_nil]
    omega
theorem cells3_at : ∀ (L : List Jump) (k : Nat), k < L.length → (cells3 L)[k * 3]? = some (.int .i64 (((L[k]?.getD (0, 0, 0)).1 : Nat) : Int)) ∧ (cells3 L)[k * 3 + 1]? = some (.int .i64 (((L[k]?.getD (0, 0, 0)).2.1 : Nat) : Int)) ∧ (cells3 L)[k * 3 + 2]? = some (.int .i64 (((L[k]?.getD (0, 0, 0)).2.2 : Nat) : Int))
  | j :: L, 0, _ => ⟨rfl, rfl, rfl⟩
  | j :: L, k + 1, h => by
    have := cells3_at L k (by simpa using h)
    rw [show cells3 (j :: L) = [.int .i64 (j.1 : Int), .int .i64 (j.2.1 : Int), .int .i64 (j.2.2 : Int)] ++ cells3 L from rfl]
    rw [List.getElem?_append_right (by simp; omega), List.getElem?_append_right (by simp; omega), List.getElem?_append_right (by simp; omega)]
    simp only [List.length_cons, List.length_nil, List.getElem?_cons_succ]
    rw [show (k + 1) * 3 - (0 + 1 + 1 + 1) = k * 3 by omega, show (k + 1) * 3 + 1 - (0 + 1 + 1 + 1) = k * 3 + 1 by omega, show (k + 1) * 3 + 2 - (0 + 1 + 1 + 1) = k * 3 + 2 by omega]
    exact this
theorem cells3_one (L : List Jump) : ∀ u ∈ cells3 L, u.oneCell' = true := by
  intro u hu
  simp only [cells3, List.mem_flatMap] at hu
  obtain ⟨j, _, hu⟩ := hu
  simp at hu
  rcases hu with rfl | rfl | rfl <;> rfl
theorem elem_jump : Elem Tryz.prog 167 3 24 := Elem.of (z := .agg #[.int .i64 0, .int .i64 0, .int .i64 0]) (by kernel_rfl) rfl (by omega)

theorem step_no1 {w h s i : Nat} {p : Int × Int} (h1 : nextP (w : Int) (h : Int) p.1 p.2 (i : Int) = none) : stepJ w h s i p = [] := by
  unfold stepJ farStep; rw [h1]
theorem step_no2 {w h s i : Nat} {p : Int × Int} {a : Int} (h1 : nextP (w : Int) (h : Int) p.1 p.2 (i : Int) = some a) (h2 : nextP (w : Int) (h : Int) p.1 p.2 a = none) : stepJ w h s i p = [] := by
  unfold stepJ farStep; rw [h1]; simp only [h2]
theorem step_yes {w h s i : Nat} {p : Int × Int} {o l : Nat} (h1 : nextP (w : Int) (h : Int) p.1 p.2 (i : Int) = some (o : Int)) (h2 : nextP (w : Int) (h : Int) p.1 p.2 (o : Int) = some (l : Int)) : stepJ w h s i p = if isP s (i, o, l) then [(i, o, l)] else [] := by
  unfold stepJ farStep; rw [h1]; simp only [h2, Int.toNat_natCast]
theorem on_bd {bc br dr dc x : Int} (h1 : 1 ≤ bc) (h2 : bc ≤ 5) (h3 : 1 ≤ br) (h4 : br ≤ 5) : 0 ≤ (onP (nextP bc br dr dc x)).1 ∧ (onP (nextP bc br dr dc x)).1 < 25 := by
  cases hn : nextP bc br dr dc x with
  | none => simp [onP]
  | some y =>
    have h5 := (next_parts h1 h2 h3 h4 hn).1
    have h6 := mul_bd h1 h2 h3 h4
    simp only [onP]
    omega
theorem straight_at {q : Nat} (hq : q < 4) : ∃ dr dc, straight[q]? = some (dr, dc) ∧ -2 ≤ dr ∧ dr ≤ 2 ∧ -2 ≤ dc ∧ dc ≤ 2 := by
  have : q = 0 ∨ q = 1 ∨ q = 2 ∨ q = 3 := by omega
  rcases this with rfl | rfl | rfl | rfl
  · exact ⟨-1, 0, rfl, by omega, by omega, by omega, by omega⟩
  · exact ⟨0, -1, rfl, by omega, by omega, by omega, by omega⟩
  · exact ⟨0, 1, rfl, by omega, by omega, by omega, by omega⟩
  · exact ⟨1, 0, rfl, by omega, by omega, by omega, by omega⟩
set_option maxHeartbeats 4000000 in
set_option maxRecDepth 100000 in
theorem jumpsOf_c (w h s : Nat) (W : World) (hw : 1 ≤ w ∧ w ≤ 5) (hh : 1 ≤ h ∧ h ≤ 5) (h12 : w * h ≤ 12) (hs : s < 4096) :
    Calls Tryz.prog 108 #[boardV (w : Int) (h : Int), .int .i64 (s : Int)] W (Owns 167 3 (jumpL w (w * h) s).length (cells3 (jumpL w (w * h) s)) W) := by
  have w1 : (1 : Int) ≤ (w : Int) := by omega
  have w5 : (w : Int) ≤ 5 := by omega
  have h1 : (1 : Int) ≤ (h : Int) := by omega
  have h5 : (h : Int) ≤ 5 := by omega
  have bx0 := Box.new W 40 #[.int .i64 (w : Int), .int .i64 (h : Int)]
  have HZ := hide (fun w6 => by
    have := size_c (w : Int) (h : Int) w6 w1 w5 h1 h5
    rw [← Int.natCast_mul] at this
    exact this)
  have HST := hide (fun w6 => straight_c w6)
  have HON := hide (fun (cell dr dc : Int) (g1 : 0 ≤ cell) (g2 : cell < 25) (g3 : -2 ≤ dr) (g4 : dr ≤ 2) (g5 : -2 ≤ dc) (g6 : dc ≤ 2) w6 => onward_anyP (w : Int) (h : Int) cell dr dc w6 w1 w5 h1 h5 g1 g2 g3 g4 g5 g6)
  have HBD := hide (fun (dr dc x : Int) => on_bd (bc := (w : Int)) (br := (h : Int)) (dr := dr) (dc := dc) (x := x) w1 w5 h1 h5)
  have HNX := hide (fun (dr dc x y : Int) (e : nextP (w : Int) (h : Int) dr dc x = some y) => show 0 ≤ y ∧ y < ((w * h : Nat) : Int) from by
    have := (next_parts w1 w5 h1 h5 e).1
    rw [← Int.natCast_mul] at this
    exact this)
  have HIS := hide (fun (i o l : Nat) (hi : i < 12) (ho : o < 12) (hl : l < 12) w6 => isOf_c i o l s hi ho hl hs w6)
  have HALL := hide (fun (i : Nat) (hi : i < w * h) => stepTo_all (s := s) hw hh h12 hi)
  have hall := hide (jumpTo_all w (w * h) s)
  have HLEN := hide (fun i => jumpTo_len w (w * h) s i)
  generalize hn : w * h = n at *
  clear hw hh hn
  go_enter Tryz.func108, Tryz.ntmps108
  go_wp2_with fail
  refine (HZ.out _).mono ?_
  rintro e w2 ⟨rfl, b2⟩
  have bx2 := bx0.then b2
  have bw2 : Below W.heap.size W w2 := below_then ((Below.refl _ _).alloc (Nat.le_refl _) _) (by simp) b2
  clear b2 bx0
  go_wp2_with fail
  go_loopw [5, 16] (fun v x wr => ∃ i : Nat, i ≤ n ∧ x = .int .i64 (i : Int) ∧ wr.ownsRow W.heap.size 167 3 v (jumpTo w n s i).length (cells3 (jumpTo w n s i)) ∧ Below W.heap.size W wr ∧ Box wr W.heap.size 40 #[.int .i64 (w : Int), .int .i64 (h : Int)]) (fun _ x _ => n - (intOf x).toNat)
  case atStart => exact ⟨0, Nat.zero_le _, rfl, World.ownsRow_nil _ _ _ _, bw2, bx2⟩
  case round =>
    obtain ⟨i, hi, rfl, own, hb, bx⟩ := hrel
    obtain ⟨wo, rfl⟩ : ∃ wo : World, wo = wr := ⟨_, rfl⟩
    by_cases hlt : i < n
    · have HSI := hide (show jumpTo w n s (i + 1) = jumpTo w n s i ++ stepTo w h s i 4 by rw [jumpTo_succ, HALL.out i hlt])
      have hjl : (jumpTo w n s i).length ≤ 144 := by
        have h1 := HLEN.out i
        have h2 : i * n ≤ 12 * 12 := Nat.mul_le_mul (by omega) (by omega)
        omega
      have hb3 := hb.alloc hb.size (.cells #[.int .i64 (-1), .int .i64 0, .int .i64 0, .int .i64 (-1), .int .i64 0, .int .i64 1, .int .i64 1, .int .i64 0] 181)
      have own3 := own.alloc (.cells #[.int .i64 (-1), .int .i64 0, .int .i64 0, .int .i64 (-1), .int .i64 0, .int .i64 1, .int .i64 1, .int .i64 0] 181)
      have bx3 := bx.alloc (.cells #[.int .i64 (-1), .int .i64 0, .int .i64 0, .int .i64 (-1), .int .i64 0, .int .i64 1, .int .i64 1, .int .i64 0] 181)
      have bs3 := Box.new wo 181 #[.int .i64 (-1), .int .i64 0, .int .i64 0, .int .i64 (-1), .int .i64 0, .int .i64 1, .int .i64 1, .int .i64 0]
      go_wp2_with fail
      refine (HST.out _).mono ?_
      rintro e w3 ⟨rfl, rfl⟩
      generalize wo.alloc (.cells #[.int .i64 (-1), .int .i64 0, .int .i64 0, .int .i64 (-1), .int .i64 0, .int .i64 1, .int .i64 1, .int .i64 0] 181) = w3 at *
      generalize hgs : wo.heap.size = gs at *
      clear hgs own hb bx
      go_wp2_with fail
      go_loopw [5, 21] (fun v x wr => ∃ q : Nat, q ≤ 4 ∧ x = .int .i64 (q : Int) ∧ wr.ownsRow W.heap.size 167 3 v (jumpTo w n s i ++ stepTo w h s i q).length (cells3 (jumpTo w n s i ++ stepTo w h s i q)) ∧ Below W.heap.size W wr ∧ Box wr W.heap.size 40 #[.int .i64 (w : Int), .int .i64 (h : Int)] ∧ Box wr gs 181 #[.int .i64 (-1), .int .i64 0, .int .i64 0, .int .i64 (-1), .int .i64 0, .int .i64 1, .int .i64 1, .int .i64 0]) (fun _ x _ => 4 - (intOf x).toNat)
      case atStart => exact ⟨0, Nat.zero_le _, rfl, by rw [show stepTo w h s i 0 = [] from rfl, List.append_nil]; exact own3, hb3, bx3, bs3⟩
      case round =>
        clear own3 hb3 bx3 bs3
        obtain ⟨q, hq, rfl, own, hb, bx, bs⟩ := hrel
        obtain ⟨wi, rfl⟩ : ∃ wi : World, wi = wr := ⟨_, rfl⟩
        have zi := hb.size
        have zb := bx.in_
        have zs := bs.in_
        have c0 := bx.cell 0
        have c1 := bx.cell 1
        by_cases hql : q < 4
        · obtain ⟨dr, dc, hp, d1, d2, d3, d4⟩ := straight_at hql
          have hs3 : (jumpTo w n s i ++ stepTo w h s i q).length ≤ 148 := by
            have := stepTo_len w h s i q
            rw [List.length_append]; omega
          have HSQ := hide (stepTo_succ (w := w) (h := h) (s := s) (i := i) hp)
          obtain ⟨hca, hcb⟩ : wi.cell? ⟨gs, q * 2, none⟩ = some (.int .i64 dr) ∧ wi.cell? ⟨gs, q * 2 + 1, none⟩ = some (.int .i64 dc) := by
            have : q = 0 ∨ q = 1 ∨ q = 2 ∨ q = 3 := by omega
            rw [bs.cell, bs.cell]
            rcases this with rfl | rfl | rfl | rfl <;> (simp [straight] at hp; obtain ⟨rfl, rfl⟩ := hp; exact ⟨rfl, rfl⟩)
          have HO1 := hide (fun w6 => HON.out (i : Int) dr dc (by omega) (by omega) d1 d2 d3 d4 w6)
          have bd1 := HBD.out dr dc (i : Int)
          have HN1 := hide (fun (y : Int) (e : nextP (w : Int) (h : Int) dr dc (i : Int) = some y) => HNX.out dr dc (i : Int) y e)
          have HC1 : Hid (nextP (w : Int) (h : Int) dr dc (i : Int) = none ∧ (onP (nextP (w : Int) (h : Int) dr dc (i : Int))) = (0, false) ∨ ∃ o : Nat, o < n ∧ nextP (w : Int) (h : Int) dr dc (i : Int) = some (o : Int) ∧ (onP (nextP (w : Int) (h : Int) dr dc (i : Int))) = ((o : Int), true)) := by
            cases hnx : nextP (w : Int) (h : Int) dr dc (i : Int) with
            | none => exact .inl ⟨rfl, rfl⟩
            | some y =>
              obtain ⟨y0, y1⟩ := HN1.out y hnx
              obtain ⟨o, rfl⟩ := Int.eq_ofNat_of_zero_le y0
              exact .inr ⟨o, by omega, rfl, rfl⟩
          have q0 : (0 : Int) ≤ (q : Int) := by omega
          have q4 : (q : Int) < 4 := by omega
          have bst := Box.new wi 181 #[.int .i64 dr, .int .i64 dc]
          have own1 := own.alloc (.cells #[.int .i64 dr, .int .i64 dc] 181)
          have hb1 := hb.alloc hb.size (.cells #[.int .i64 dr, .int .i64 dc] 181)
          have bx1 := bx.alloc (.cells #[.int .i64 dr, .int .i64 dc] 181)
          have bs1 := bs.alloc (.cells #[.int .i64 dr, .int .i64 dc] 181)
          have HQ := hide hql
          obtain ⟨gst, hgst⟩ : ∃ gst, wi.heap.size = gst := ⟨_, rfl⟩
          have hOWN := hide (And.intro own1 (And.intro hb1 (And.intro bx1 (And.intro bs1 bst))))
          clear own hb bx bs own1 hb1 bx1 bs1 bst bd1 HN1 hgst
          rcases HC1.out with ⟨hn1, e1⟩ | ⟨o, ho, hn1, e1⟩
          · rw [e1] at HO1
            have HS0 := hide (HSQ.out.trans (by rw [step_no1 (p := (dr, dc)) hn1, List.append_nil]))
            have HO2 := hide (fun w6 => HON.out 0 dr dc (by omega) (by omega) d1 d2 d3 d4 w6)
            generalize onP (nextP (w : Int) (h : Int) dr dc 0) = pr at *
            obtain ⟨l', far⟩ := pr
            clear hn1 e1 HSQ HC1 hp
            go_wp2_with fail
            refine (HO1.out _).mono ?_
            rintro e w6 ⟨rfl, b6⟩
            obtain ⟨own1, hb1, bx1, bs1, bst⟩ := hOWN.out
            have own6 := own_below own1 b6
            have hb6 := below_then hb1 hb1.size b6
            have bx6 := bx1.then b6
            have bs6 := bs1.then b6
            have bt6 := bst.then b6
            have k0 := bx6.cell 0
            have k1 := bx6.cell 1
            have k2 := bt6.cell 0
            have k3 := bt6.cell 1
            clear own1 hb1 bx1 bs1 bst b6 hOWN hca hcb
            go_wp2_with fail
            refine (HO2.out _).mono ?_
            rintro e w7 ⟨rfl, b7⟩
            have own7 := (own_below own6 b7).alloc (.cells #[.int .i64 (i : Int), .int .i64 0, .int .i64 l'] 167)
            have hb7 := below_then hb6 hb6.size b7
            have hb8 := hb7.alloc hb7.size (.cells #[.int .i64 (i : Int), .int .i64 0, .int .i64 l'] 167)
            have bx7 := (bx6.then b7).alloc (.cells #[.int .i64 (i : Int), .int .i64 0, .int .i64 l'] 167)
            have bs7 := (bs6.then b7).alloc (.cells #[.int .i64 (i : Int), .int .i64 0, .int .i64 l'] 167)
            clear own6 hb6 bx6 bs6 bt6 b7 k0 k1 k2 k3 hb7
            go_wp2_with fail
            exact ⟨⟨q + 1, HQ.out, by go_num, by rw [HS0.out]; exact own7, hb8, bx7, bs7⟩, by simp [intOf]; omega⟩
          · rw [e1] at HO1
            have HO2 := hide (fun w6 => HON.out (o : Int) dr dc (by omega) (by omega) d1 d2 d3 d4 w6)
            have HC2 : Hid (nextP (w : Int) (h : Int) dr dc (o : Int) = none ∧ (onP (nextP (w : Int) (h : Int) dr dc (o : Int))) = (0, false) ∨ ∃ l : Nat, l < n ∧ nextP (w : Int) (h : Int) dr dc (o : Int) = some (l : Int) ∧ (onP (nextP (w : Int) (h : Int) dr dc (o : Int))) = ((l : Int), true)) := by
              cases hnx : nextP (w : Int) (h : Int) dr dc (o : Int) with
              | none => exact .inl ⟨rfl, rfl⟩
              | some y =>
                obtain ⟨y0, y1⟩ := HNX.out dr dc (o : Int) y hnx
                obtain ⟨l, rfl⟩ := Int.eq_ofNat_of_zero_le y0
                exact .inr ⟨l, by omega, rfl, rfl⟩
            clear e1 HC1
            go_wp2_with fail
            refine (HO1.out _).mono ?_
            rintro e w6 ⟨rfl, b6⟩
            obtain ⟨own1, hb1, bx1, bs1, bst⟩ := hOWN.out
            have own6 := own_below own1 b6
            have hb6 := below_then hb1 hb1.size b6
            have bx6 := bx1.then b6
            have bs6 := bs1.then b6
            have bt6 := bst.then b6
            have k0 := bx6.cell 0
            have k1 := bx6.cell 1
            have k2 := bt6.cell 0
            have k3 := bt6.cell 1
            clear own1 hb1 bx1 bs1 bst b6 hOWN hca hcb
            go_wp2_with fail
            refine (HO2.out _).mono ?_
            rintro e w7 ⟨rfl, b7⟩
            have bx7 := bx6.then b7
            have bs7 := bs6.then b7
            have own7 := own_below own6 b7
            have hb7 := below_then hb6 hb6.size b7
            clear own6 hb6 bx6 bs6 bt6 b7 k0 k1 k2 k3
            have hn1 := hide hn1
            rcases HC2.out with ⟨hn2, e2⟩ | ⟨l, hl, hn2, e2⟩
            · have HS0 := hide (HSQ.out.trans (by rw [step_no2 (p := (dr, dc)) hn1.out hn2, List.append_nil]))
              rw [e2]
              have own8 := own7.alloc (.cells #[.int .i64 (i : Int), .int .i64 (o : Int), .int .i64 0] 167)
              have hb8 := hb7.alloc hb7.size (.cells #[.int .i64 (i : Int), .int .i64 (o : Int), .int .i64 0] 167)
              have bx8 := bx7.alloc (.cells #[.int .i64 (i : Int), .int .i64 (o : Int), .int .i64 0] 167)
              have bs8 := bs7.alloc (.cells #[.int .i64 (i : Int), .int .i64 (o : Int), .int .i64 0] 167)
              clear hn2 e2 HSQ HC2 hp own7 hb7 bx7 bs7
              go_wp2_with fail
              exact ⟨⟨q + 1, HQ.out, by go_num, by rw [HS0.out]; exact own8, hb8, bx8, bs8⟩, by simp [intOf]; omega⟩
            · have HST' := hide (HSQ.out.trans (by rw [step_yes (s := s) (p := (dr, dc)) hn1.out hn2]))
              rw [e2]
              have HI := hide (fun w6 => HIS.out i o l (by omega) (by omega) (by omega) w6)
              have own8 := own7.alloc (.cells #[.int .i64 (i : Int), .int .i64 (o : Int), .int .i64 (l : Int)] 167)
              have hb8 := hb7.alloc hb7.size (.cells #[.int .i64 (i : Int), .int .i64 (o : Int), .int .i64 (l : Int)] 167)
              have bx8 := bx7.alloc (.cells #[.int .i64 (i : Int), .int .i64 (o : Int), .int .i64 (l : Int)] 167)
              have bs8 := bs7.alloc (.cells #[.int .i64 (i : Int), .int .i64 (o : Int), .int .i64 (l : Int)] 167)
              have bj8 := Box.new w7 167 #[.int .i64 (i : Int), .int .i64 (o : Int), .int .i64 (l : Int)]
              clear hn2 e2 HSQ HC2 hp own7 hb7 bx7 bs7
              cases hp : isP s (i, o, l) with
              | false =>
                have HS0 : Hid (stepTo w h s i (q + 1) = stepTo w h s i q) := by
                  show _ = _
                  rw [HST'.out, hp, if_neg Bool.false_ne_true, List.append_nil]
                rw [hp] at HI
                clear hp HST'
                go_wp2_with fail
                refine (HI.out _).mono ?_
                rintro e w8 ⟨rfl, b8⟩
                have own9 := own_below own8 b8
                have hb9 := below_then hb8 hb8.size b8
                have bx9 := bx8.then b8
                have bs9 := bs8.then b8
                clear own8 hb8 bx8 bs8 bj8 b8
                go_wp2_with fail
                exact ⟨⟨q + 1, HQ.out, by go_num, by rw [HS0.out]; exact own9, hb9, bx9, bs9⟩, by simp [intOf]; omega⟩
              | true =>
                have HS0 : Hid (stepTo w h s i (q + 1) = stepTo w h s i q ++ [(i, o, l)]) := by
                  show _ = _
                  rw [HST'.out, hp, if_pos rfl]
                rw [hp] at HI
                clear hp HST'
                go_wp2_with fail
                refine (HI.out _).mono ?_
                rintro e w8 ⟨rfl, b8⟩
                have own9 := (own_below own8 b8).alloc (.cells #[.int .i64 (i : Int), .int .i64 (o : Int), .int .i64 (l : Int)] 167)
                have hb9 := below_then hb8 hb8.size b8
                have hb9 := hb9.alloc hb9.size (.cells #[.int .i64 (i : Int), .int .i64 (o : Int), .int .i64 (l : Int)] 167)
                have bx9 := (bx8.then b8).alloc (.cells #[.int .i64 (i : Int), .int .i64 (o : Int), .int .i64 (l : Int)] 167)
                have bs9 := (bs8.then b8).alloc (.cells #[.int .i64 (i : Int), .int .i64 (o : Int), .int .i64 (l : Int)] 167)
                have bj9 := bj8.then b8
                have k0 := bj9.cell 0
                have k1 := bj9.cell 1
                have k2 := bj9.cell 2
                have hz9 := hide hb9.size
                clear own8 hb8 bx8 bs8 bj8 b8 bj9
                go_wp2_with ((at_builtin; refine put_own rfl (.tmp 52) (.tmp 54) rfl Tryz.underlying164 elem_jump rfl own9 rfl (m := 1) (news := [.int .i64 (i : Int), .int .i64 (o : Int), .int .i64 (l : Int)]) rfl (row_new _ _ _ (by first | rfl | simp)) (by simp [Value.oneCell']) (by omega) (by omega) hz9.out ?_; intro v5 w5' own5 hg5 ho5))
                have bx5 := bx9.grown hg5 (own_ne own9 bx9 (by decide))
                have bs5 := bs9.grown hg5 (own_ne own9 bs9 (by decide))
                have hb5 := below_grown hb9 hb9.size own9 (Nat.le_refl _) hg5
                refine ⟨⟨q + 1, HQ.out, by go_num, ?_, hb5, bx5, bs5⟩, by simp [intOf]; omega⟩
                rw [HS0.out, ← List.append_assoc, List.length_append, cells3_app]
                exact own5
        · obtain rfl : q = 4 := by omega
          rw [← HSI.out] at own
          go_wp2_with fail
          exact ⟨⟨i + 1, hlt, by go_num, own, hb, bx⟩, by simp [intOf]; omega⟩
    · obtain rfl : i = n := by omega
      rw [hall.out] at own
      go_wp2_with fail
      go_ret
      exact ⟨_, rfl, own, hb⟩
end Go.Proofs.YtmfdlijkpdgimaaGreatDoor

/-
  The program's pegs: the chain of positions, and the map of those that are left.
-/
namespace Go.Proofs.YtmfdlijkpdgimaaGreatDoor
open Go.RowKit Go.Maps
set_option linter.unusedVariables false

theorem mlawP : Keyed Tryz.prog 3 := int_keyed Tryz.underlying3
theorem mzeroP (w : World) : (zeroValue 4).run Tryz.prog w = .ok (.bool false) w := by kernel_rfl
abbrev OwnsB (w : World) (b n : Nat) (D : DataW Unit) : Prop := w.ownsMap Tryz.prog 3 (plainElem Tryz.prog 4) b n D
/-- The map reads as the set of some numbers. -/
def SetV (D : DataW Unit) (f : Nat → Bool) : Prop := IsMap D ∧ ∀ t : Nat, D.atKey (.int .i64 (t : Int)) (.lit (.bool false)) = .lit (.bool (f t))
theorem key_neP {x y : Nat} (h : x ≠ y) : (Lit.int .i64 (x : Int)) ≠ .int .i64 (y : Int) := fun e => h (by injection e with _ e; omega)
theorem SetV.empty : SetV (.map []) (fun _ => false) := ⟨isMap_empty, fun t => rfl⟩
theorem SetV.congr {D : DataW Unit} {f g : Nat → Bool} (h : SetV D f) (e : ∀ t, f t = g t) : SetV D g := ⟨h.1, fun t => by rw [h.2 t, e t]⟩
theorem SetV.put {D : DataW Unit} {f : Nat → Bool} (h : SetV D f) (x : Nat) : SetV (D.put (.int .i64 (x : Int)) (.lit (.bool true))) (fun t => t == x || f t) := by
  refine ⟨h.1.put _ _, fun t => ?_⟩
  by_cases e : t = x
  · subst e
    rw [atKey_put_same h.1 (k := Lit.int .i64 (t : Int)) (show WideAt.IsKeyLit (Lit.int .i64 (t : Int)) from trivial)]
    simp
  · rw [atKey_put_other (key_neP e), h.2 t]
    simp [e]
theorem SetV.del {D : DataW Unit} {f : Nat → Bool} (h : SetV D f) (x : Nat) : SetV (D.del (.int .i64 (x : Int))) (fun t => !(t == x) && f t) := by
  refine ⟨h.1.del _, fun t => ?_⟩
  by_cases e : t = x
  · subst e
    rw [atKey_del_same]
    simp
  · rw [atKey_del_other (key_neP e), h.2 t]
    simp [e]
theorem plain_bool_inv {P : Program} {e : TypeId} (he : P.underlying e = some .bool) {v : Value} {z : DataW Unit × List MemPlace} (h : plainElem P e v = some z) : ∃ b, v = .bool b ∧ z = (.lit (.bool b), []) := by
  unfold plainElem at h
  rw [he] at h
  cases v <;> simp at h
  subst h
  exact ⟨_, rfl, rfl⟩
/-- 'm[k]' in a map of truth values of the call's own. -/
theorem wpList_lookup_own_bool {P : Program} (w : World) {ops : Array Oper} {rest : List Oper} {o : Oper} {a : Act} {Q : Exit → Act → World → Prop}
    (hg : o.guard = none) (m x : Operand) (t : TypeId) (hop : o.op = Op.lookup t m x false)
    (k e : TypeId) (K : Keyed P k) (ht : P.underlying t = some (.map k e)) (he : P.underlying e = some .bool) (hz : (zeroValue e).run P w = .ok (.bool false) w) (b n : Nat) (D : DataW Unit)
    (hm : a.eval m = .map (some b)) (hown : w.ownsMap P k (plainElem P e) b n D) (key : Value) (kl : Lit) (hx : a.eval x = key) (hkey : keyOf P k key = some kl)
    (c : Bool) (hc : D.atKey kl (.lit (.bool false)) = .lit (.bool c)) (hK : wpList P ops Q rest (a.put o.dst (.bool c)) w) :
    wpList P ops Q (o :: rest) a w := by
  refine wpList_plain hg fun K' hK' => ?_
  obtain ⟨v, ps, hrun, hv⟩ := hown.lookup K ht hz (plainElem_bool he false) hkey
  obtain ⟨d, rfl, hd⟩ := plain_bool_inv he hv
  have e1 := congrArg Prod.fst hd
  simp only at e1
  rw [hc] at e1
  injection e1 with e1
  injection e1 with e1
  subst e1
  unfold Oper.wp
  simp [execOp, hop, hm, hx, hrun, Result.andThen]
  exact hK' _ _ hK
theorem insert_ownP {P : Program} (w : World) {ops : Array Oper} {rest : List Oper} {o : Oper} {a : Act} {Q : Exit → Act → World → Prop}
    (hg : o.guard = none) (m x v : Operand) (t : TypeId) (hop : o.op = Op.insert t m x v)
    (k e : TypeId) (K : Keyed P k) (ht : P.underlying t = some (.map k e)) (R : Value → Option (DataW Unit × List MemPlace)) (b n : Nat) (D : DataW Unit)
    (hm : a.eval m = .map (some b)) (hown : w.ownsMap P k R b n D) (hn : n < maxLen) (key val : Value) (kl : Lit) (hx : a.eval x = key) (hv : a.eval v = val) (hkey : keyOf P k key = some kl)
    (d : DataW Unit) (ps : List MemPlace) (hval : R val = some (d, ps))
    (hK : ∀ w', w'.ownsMap P k R b (n + 1) (D.put kl d) → w.grownBy w' (some b) → wpList P ops Q rest (a.put o.dst undef) w') :
    wpList P ops Q (o :: rest) a w := by
  refine wpList_plain hg fun K' hK' => ?_
  obtain ⟨w', hrun, r1, r2⟩ := hown.update K ht hn hkey hval
  unfold Oper.wp
  simp [execOp, hop, hm, hx, hv, hrun, Result.andThen]
  exact hK' _ _ (hK w' r1 r2)
theorem key_wf {y : Nat} (h : y ≤ 4096) : (Lit.int .i64 (y : Int)).wf = true := by
  simp [Lit.wf, IntKind.min, IntKind.max, IntKind.bits, IntKind.signed]; omega

/-! ### What stands beside what -/
theorem own_nemap {w : World} {base size n b m : Nat} {e : TypeId} {v : Value} {xs : List Value} {D : DataW Unit} (h : w.ownsRow base e size v n xs) (hm : OwnsB w b m D) : v.ownBlock ≠ some b := fun e' => by
  obtain ⟨es, clock, hb, _⟩ := hm
  rcases h.2 with ⟨rfl, _⟩ | ⟨g, cap, cur, rfl, _, hg, _⟩
  · cases e'
  · injection e' with e'
    subst e'
    rw [hb] at hg
    cases hg
theorem box_nemap {w : World} {g b m : Nat} {t : TypeId} {cs : Array Value} {D : DataW Unit} (h : Box w g t cs) (hm : OwnsB w b m D) : g ≠ b := fun e => by
  obtain ⟨es, clock, hb, _⟩ := hm
  subst e
  unfold Box at h
  rw [hb] at h
  cases h
theorem box_ne {w : World} {g g' : Nat} {t t' : TypeId} {cs cs' : Array Value} (h : Box w g t cs) (h' : Box w g' t' cs') (hne : t ≠ t') : g ≠ g' := fun e => by
  subst e
  unfold Box at h h'
  rw [h] at h'
  simp at h'
  exact hne h'.2
theorem grown_setP (w : World) (p : Addr) (u : Value) : w.grownBy (w.setCell p u) (some p.block) := ⟨rfl, rfl, rfl, by simp, fun i _ hne => Below.heap_setCell w p u i (fun e => hne (by rw [e]))⟩

/-- What comes behind the j-th position. -/
def nextV (gs : List Nat) (j : Nat) : Value := .pointer ((gs[j]?).map fun g => ⟨g, 0, none⟩)
structure Chain (w : World) (B : Nat) (gs o : List Nat) : Prop where
  len : gs.length = o.length
  box : ∀ (j g y : Nat), gs[j]? = some g → o[j]? = some y → Box w g 162 #[.int .i64 (y : Int), nextV gs (j + 1)]
  nodup : gs.Nodup
  low : ∀ g ∈ gs, B ≤ g
theorem Chain.at_ {w : World} {B : Nat} {gs o : List Nat} (h : Chain w B gs o) {j : Nat} (hj : j < o.length) : ∃ g, gs[j]? = some g ∧ B ≤ g ∧ g < w.heap.size ∧ Box w g 162 #[.int .i64 ((o[j]?.getD 0 : Nat) : Int), nextV gs (j + 1)] := by
  have hg : j < gs.length := by rw [h.len]; exact hj
  have := h.box j gs[j] o[j] (List.getElem?_eq_getElem hg) (List.getElem?_eq_getElem hj)
  exact ⟨gs[j], List.getElem?_eq_getElem hg, h.low _ (List.getElem_mem hg), this.in_, by rw [List.getElem?_eq_getElem hj]; exact this⟩
theorem Chain.mem {w : World} {B : Nat} {gs o : List Nat} (h : Chain w B gs o) {g : Nat} (hg : g ∈ gs) : ∃ cs, Box w g 162 cs := by
  obtain ⟨j, hj, rfl⟩ := List.getElem_of_mem hg
  exact ⟨_, h.box j _ _ (List.getElem?_eq_getElem hj) (List.getElem?_eq_getElem (show j < o.length by rw [← h.len]; exact hj))⟩
theorem Chain.same {w w' : World} {B : Nat} {gs o : List Nat} (h : Chain w B gs o) (hs : ∀ g ∈ gs, w'.heap[g]? = w.heap[g]?) : Chain w' B gs o :=
  ⟨h.len, fun j g y h1 h2 => (hs g (List.mem_of_getElem? h1)).trans (h.box j g y h1 h2), h.nodup, h.low⟩
theorem Chain.push {w : World} {B gl : Nat} {gs o : List Nat} (h : Chain w B gs o) (hB : B ≤ w.heap.size) (hl : gs[o.length - 1]? = some gl) (h0 : 0 < o.length) (y : Nat) :
    Chain ((w.alloc (.cells #[.int .i64 (y : Int), .pointer none] 162)).setCell ⟨gl, 1, none⟩ (.pointer (some ⟨w.heap.size, 0, none⟩))) B (gs ++ [w.heap.size]) (o ++ [y]) := by
  have hnew : ∀ g ∈ gs, g < w.heap.size := fun g hg => by obtain ⟨cs, hb⟩ := h.mem hg; exact hb.in_
  have hgl := hnew gl (List.mem_of_getElem? hl)
  refine ⟨by simp [h.len], fun j g z h1 h2 => ?_, ?_, fun g hg => ?_⟩
  · by_cases hj : j < o.length
    · rw [List.getElem?_append_left (by rw [h.len]; exact hj)] at h1
      rw [List.getElem?_append_left hj] at h2
      have hb := (h.box j g z h1 h2).alloc (.cells #[.int .i64 (y : Int), .pointer none] 162)
      by_cases e : j = o.length - 1
      · subst e
        rw [hl] at h1
        injection h1 with h1
        subst h1
        have hs := hb.set 1 (.pointer (some ⟨w.heap.size, 0, none⟩))
        have hn : nextV (gs ++ [w.heap.size]) (o.length - 1 + 1) = .pointer (some ⟨w.heap.size, 0, none⟩) := by
          unfold nextV
          rw [show o.length - 1 + 1 = gs.length by rw [h.len]; omega, List.getElem?_append_right (Nat.le_refl _)]
          simp
        rw [hn]
        simpa using hs
      · have hn : nextV (gs ++ [w.heap.size]) (j + 1) = nextV gs (j + 1) := by
          unfold nextV
          rw [List.getElem?_append_left (by rw [h.len]; omega)]
        rw [hn]
        refine hb.other (p := ⟨gl, 1, none⟩) (fun e' => ?_) _
        simp only at e'
        subst e'
        have hi1 := (List.getElem?_eq_some_iff.1 h1)
        have hi2 := (List.getElem?_eq_some_iff.1 hl)
        obtain ⟨a1, a2⟩ := hi1
        obtain ⟨c1, c2⟩ := hi2
        exact e ((List.getElem_inj h.nodup).1 (a2.trans c2.symm))
    · have hj' : j = o.length := by
        have := (List.getElem?_eq_some_iff.1 h2).1
        simp at this; omega
      subst hj'
      rw [show o.length = gs.length from h.len.symm, List.getElem?_append_right (Nat.le_refl _)] at h1
      rw [List.getElem?_append_right (Nat.le_refl _)] at h2
      simp at h1 h2
      subst h1 h2
      have hn : nextV (gs ++ [w.heap.size]) (o.length + 1) = .pointer none := by
        unfold nextV
        rw [List.getElem?_eq_none (by simp [h.len])]
        rfl
      rw [hn]
      exact (Box.new w 162 #[.int .i64 (y : Int), .pointer none]).other (p := ⟨gl, 1, none⟩) (by simp only; omega) _
  · rw [List.nodup_append]
    refine ⟨h.nodup, by simp, fun a ha b hb hab => ?_⟩
    rw [List.mem_singleton.1 hb] at hab
    have := hnew a ha
    omega
  · rcases List.mem_append.1 hg with hg | hg
    · exact h.low g hg
    · rw [List.mem_singleton.1 hg]; exact hB

/-- Where the search of the program stands in memory. -/
structure StP (W w : World) (bw bh : Int) (gs o : List Nat) (nm : Nat) (D : DataW Unit) (v : Value) (sets : List Int) : Prop where
  own : w.ownsRow W.heap.size 3 1 v sets.length (ints sets)
  chain : Chain w W.heap.size gs o
  map : OwnsB w (W.heap.size + 2) nm D
  board : Box w W.heap.size 40 #[.int .i64 bw, .int .i64 bh]
  below : Below W.heap.size W w
section
variable {W w w' : World} {bw bh : Int} {gs o : List Nat} {nm : Nat} {D : DataW Unit} {v : Value} {sets : List Int}
theorem StP.alloc (h : StP W w bw bh gs o nm D v sets) (ob : Obj) : StP W (w.alloc ob) bw bh gs o nm D v sets :=
  ⟨h.own.alloc ob, h.chain.same fun g hg => by obtain ⟨cs, hb⟩ := h.chain.mem hg; exact Below.heap_alloc w ob g hb.in_, h.map.alloc ob, h.board.alloc ob, h.below.alloc h.below.size ob⟩
theorem StP.then (h : StP W w bw bh gs o nm D v sets) (hb : Below w.heap.size w w') : StP W w' bw bh gs o nm D v sets :=
  ⟨own_below h.own hb, h.chain.same fun g hg => by obtain ⟨cs, hb'⟩ := h.chain.mem hg; exact hb.block g hb'.in_,
    h.map.kept (row := none) ⟨hb.os, hb.tape, hb.output, hb.size, fun k hk _ => hb.block k hk⟩ (by simp), h.board.then hb, below_then h.below h.below.size hb⟩
theorem StP.drew (h : StP W w bw bh gs o nm D v sets) : StP W w.drew bw bh gs o nm D v sets := ⟨h.own, ⟨h.chain.len, h.chain.box, h.chain.nodup, h.chain.low⟩, h.map, h.board, h.below.drew⟩
theorem StP.row {v' : Value} {sets' : List Int} (h : StP W w bw bh gs o nm D v sets) (hg : w.grownBy w' v.ownBlock) (h' : w'.ownsRow W.heap.size 3 1 v' sets'.length (ints sets')) : StP W w' bw bh gs o nm D v' sets' :=
  ⟨h', h.chain.same fun g hgm => by
      obtain ⟨cs, hb⟩ := h.chain.mem hgm
      exact hg.block g hb.in_ (fun e => own_ne h.own hb (by decide) e.symm),
    h.map.kept hg (fun e => own_nemap h.own h.map e.symm), h.board.grown hg (own_ne h.own h.board (by decide)), below_grown h.below h.below.size h.own (Nat.le_refl _) hg⟩
theorem StP.mapped {nm' : Nat} {D' : DataW Unit} (h : StP W w bw bh gs o nm D v sets) (hg : w.grownBy w' (some (W.heap.size + 2))) (h' : OwnsB w' (W.heap.size + 2) nm' D') : StP W w' bw bh gs o nm' D' v sets :=
  ⟨h.own.kept hg (.inr (own_nemap h.own h.map)), h.chain.same fun g hgm => by
      obtain ⟨cs, hb⟩ := h.chain.mem hgm
      exact hg.block g hb.in_ (fun e => by injection e with e; exact box_nemap hb h.map e),
    h', h.board.grown hg (fun e => by injection e with e; exact box_nemap h.board h.map e.symm), h.below.grown hg h.below.size (fun z e => by injection e with e; omega)⟩
theorem StP.push {gl : Nat} (h : StP W w bw bh gs o nm D v sets) (hl : gs[o.length - 1]? = some gl) (h0 : 0 < o.length) (y : Nat) :
    StP W ((w.alloc (.cells #[.int .i64 (y : Int), .pointer none] 162)).setCell ⟨gl, 1, none⟩ (.pointer (some ⟨w.heap.size, 0, none⟩))) bw bh (gs ++ [w.heap.size]) (o ++ [y]) nm D v sets := by
  have ha := h.alloc (.cells #[.int .i64 (y : Int), .pointer none] 162)
  have hgm := List.mem_of_getElem? hl
  obtain ⟨cs, hb⟩ := ha.chain.mem hgm
  have hg := grown_setP (w.alloc (.cells #[.int .i64 (y : Int), .pointer none] 162)) ⟨gl, 1, none⟩ (.pointer (some ⟨w.heap.size, 0, none⟩))
  simp only at hg
  exact ⟨ha.own.kept hg (.inr (own_ne ha.own hb (by decide))), h.chain.push h.below.size hl h0 y, ha.map.kept hg (fun e => by injection e with e; exact box_nemap hb ha.map e.symm),
    ha.board.grown hg (fun e => by injection e with e; exact box_ne ha.board hb (by decide) e.symm), ha.below.grown hg ha.below.size (fun z e => by injection e with e; subst e; exact h.chain.low gl hgm)⟩
end
end Go.Proofs.YtmfdlijkpdgimaaGreatDoor

/-
  The program's pegs: comesFrom.
-/
namespace Go.Proofs.YtmfdlijkpdgimaaGreatDoor
open Go.RowKit Go.Maps
set_option linter.unusedVariables false

def lenV : Value → Nat
  | .slice _ n _ => n
  | _ => 0
theorem natI_take (o : List Nat) {k : Nat} (hk : k < o.length) : natI (o.take (k + 1)) = natI (o.take k) ++ [((o[k]?.getD 0 : Nat) : Int)] := by
  unfold natI
  rw [List.take_succ_eq_append_getElem hk, List.map_append, List.getElem?_eq_getElem hk]
  rfl
theorem drop_next (o : List Nat) (hn : o.Nodup) {k : Nat} (hk : k < o.length) (t : Nat) : (!(t == o[k]?.getD 0) && (o.drop k).contains t) = (o.drop (k + 1)).contains t := by
  have e : o.drop k = o[k] :: o.drop (k + 1) := List.drop_eq_getElem_cons hk
  have hno : o[k] ∉ o.drop (k + 1) := fun h => by
    have := List.Pairwise.sublist (List.drop_sublist k o) hn
    rw [e, List.pairwise_cons] at this
    exact this.1 _ h rfl
  rw [List.getElem?_eq_getElem hk, Option.getD_some, e, List.contains_cons]
  by_cases h : t = o[k]
  · subst h
    simp [hno]
  · have h' : (t == o[k]) = false := by simpa using h
    rw [h']
    simp
theorem drop_push (o : List Nat) {k : Nat} (hk : k ≤ o.length) (y t : Nat) : (t == y || (o.drop k).contains t) = ((o ++ [y]).drop k).contains t := by
  rw [List.drop_append_of_le_length hk, Bool.eq_iff_iff]
  simp only [Bool.or_eq_true, beq_iff_eq, List.contains_iff_mem, List.mem_append, List.mem_singleton]
  exact Or.comm
theorem has_drop {w n s k q : Nat} (hw : 1 ≤ w) (hs : s < 2 ^ n) (hk : k < (bfsL w n s k).length) (hq : q < (jumpL w n ((bfsL w n s k)[k]?.getD 0)).length) :
    (putsTo ((bfsL w n s k)[k]?.getD 0) (jumpL w n ((bfsL w n s k)[k]?.getD 0)) (bfsL w n s k) q).contains (behindP ((bfsL w n s k)[k]?.getD 0) ((jumpL w n ((bfsL w n s k)[k]?.getD 0))[q]?.getD (0, 0, 0))) =
    ((putsTo ((bfsL w n s k)[k]?.getD 0) (jumpL w n ((bfsL w n s k)[k]?.getD 0)) (bfsL w n s k) q).drop (k + 1)).contains (behindP ((bfsL w n s k)[k]?.getD 0) ((jumpL w n ((bfsL w n s k)[k]?.getD 0))[q]?.getD (0, 0, 0))) := by
  have hB := bfs_is hw hs k
  have hx : (bfsL w n s k)[k]? = some ((bfsL w n s k)[k]?.getD 0) := by rw [List.getElem?_eq_getElem hk]; rfl
  have hm := List.mem_of_getElem? hx
  generalize (bfsL w n s k)[k]?.getD 0 = x at *
  have hmid := mid_to hB.mid hw (hB.lt x hm) (hB.come x hm) q (by omega)
  rw [Bool.eq_iff_iff, List.contains_iff_mem, List.contains_iff_mem]
  refine left_mem hB hx hmid hw ?_
  rw [List.getElem?_eq_getElem hq]
  exact List.getElem_mem _

set_option maxHeartbeats 8000000 in
set_option maxRecDepth 100000 in
theorem comesFrom_c (w h s : Nat) (W : World) (hw : 1 ≤ w ∧ w ≤ 5) (hh : 1 ≤ h ∧ h ≤ 5) (h12 : w * h ≤ 12) (hs : s < 2 ^ (w * h)) :
    Calls Tryz.prog 87 #[boardV (w : Int) (h : Int), .int .i64 (s : Int)] W (Owns 3 1 (comeL w (w * h) s).length (ints (ascP (natI (comeL w (w * h) s)))) W) := by
  have HJO := hide (fun (x : Nat) (hx : x < 2 ^ (w * h)) w6 => jumpsOf_c w h x w6 hw hh h12 (peg_lt h12 hx))
  have hJl := hide (fun x => jump_len (w := w) (n := w * h) x h12)
  have HAT := hide (fun (k : Nat) (hk : k < (bfsL w (w * h) s k).length) => at_k hw.1 hs hk)
  have HHD := hide (fun (k : Nat) (hk : k < (bfsL w (w * h) s k).length) q hq => has_drop (q := q) hw.1 hs hk hq)
  have HND := hide (fun k => (bfs_is hw.1 hs k).nodup)
  have HSTOP := hide (fun (k : Nat) (hk : (bfsL w (w * h) s k).length = k) => come_at hw.1 hs hk)
  have HLEN := hide (fun k => bfs_len hw.1 hs k)
  have hp := pow12 h12
  have HAS := hide (fun (x : Nat) (j : Jump) (hx : x < 4096) (hJ : JumpIs w (w * h) x j) w6 => show Calls Tryz.prog 109 #[jumpA (j.1 : Int) (j.2.1 : Int) (j.2.2 : Int), .int .i64 (x : Int)] w6 (Plain (.int .i64 ((behindP x j : Nat) : Int)) w6) by
    have := jbehind_c j.1 j.2.1 j.2.2 x (by have := hJ.i; omega) (by have := hJ.m; omega) (by have := hJ.k; omega) hx w6
    rwa [behind_sets hJ] at this)
  have hs4 := peg_lt h12 hs
  generalize w * h = n at *
  obtain ⟨P, hP⟩ : ∃ P, 2 ^ n = P := ⟨_, rfl⟩
  have HP := hide hP
  rw [hP] at hs hp HLEN
  have P4 := hp.2
  have hmm := @run_makeMap Tryz.prog
  have bx0 := Box.new W 40 #[.int .i64 (w : Int), .int .i64 (h : Int)]
  clear hP hp hw hh h12
  have hwf := key_wf (y := s) (by omega)
  have bxp := Box.new (W.alloc (.cells #[.int .i64 (w : Int), .int .i64 (h : Int)] 40)) 162 #[.int .i64 (s : Int), .pointer none]
  have hmade := hide (World.ownsMap_made ((W.alloc (.cells #[.int .i64 (w : Int), .int .i64 (h : Int)] 40)).alloc (.cells #[.int .i64 (s : Int), .pointer none] 162)) Tryz.prog 3 (plainElem (H := Unit) Tryz.prog 4))
  have st0 : StP W (((W.alloc (.cells #[.int .i64 (w : Int), .int .i64 (h : Int)] 40)).alloc (.cells #[.int .i64 (s : Int), .pointer none] 162)).alloc (.map #[] 0)) (w : Int) (h : Int) [W.heap.size + 1] [s] 0 (.map []) (.slice none 0 0) [] :=
    ⟨World.ownsRow_nil _ _ _ _, ⟨rfl, fun j g y h1 h2 => by
        have hj : j = 0 := by have := (List.getElem?_eq_some_iff.1 h1).1; simpa using this
        subst hj
        simp at h1 h2
        subst h1 h2
        have := bxp.alloc (.map #[] 0)
        simpa [nextV] using this, by simp, fun g hg => by rw [List.mem_singleton.1 hg]; omega⟩,
      by simpa using hmade.out, (bx0.alloc _).alloc _, (((Below.refl _ _).alloc (Nat.le_refl _) _).alloc (by simp) _).alloc (by simp; omega) _⟩
  have hmap0 : OwnsB _ (W.heap.size + 1 + 1) 0 (.map []) := st0.map
  have Hst0 := hide st0
  clear st0 bxp bx0 hmade
  go_enter Tryz.func87, Tryz.ntmps87
  go_wp2_with (first
    | (refine insert_ownP _ rfl _ _ _ 163 rfl 3 4 mlawP Tryz.underlying163 (plainElem Tryz.prog 4) (W.heap.size + 1 + 1) 0 _ rfl hmap0 (by unfold maxLen; omega) _ _ _ rfl rfl (keyOf_int_mk Tryz.underlying3 hwf) _ [] (plainElem_bool Tryz.underlying4 true) ?_; intro w1 own1 hg1)
    | go_in)
  have st1 := Hst0.out.mapped hg1 own1
  have hv1 : Hid (SetV (DataW.put (.map []) (.int .i64 (s : Int)) (.lit (.bool true))) (fun t => ((bfsL w n s 0).drop 0).contains t)) := hide ((SetV.empty.put s).congr fun t => by
    show (t == s || false) = [s].contains t
    rw [Bool.eq_iff_iff]; simp)
  clear hmap0 own1 hg1 Hst0 hwf
  go_loopw [5, 6, 8] (fun v l a wr => ∃ (k : Nat) (gs : List Nat) (nm : Nat) (D : DataW Unit), k ≤ (bfsL w n s k).length ∧ (∃ A c, v = .slice A k c) ∧ (∃ gl, gs[(bfsL w n s k).length - 1]? = some gl ∧ l = .pointer (some ⟨gl, 0, none⟩)) ∧ Hid (a = nextV gs k) ∧
      StP W wr (w : Int) (h : Int) gs (bfsL w n s k) nm D v (natI ((bfsL w n s k).take k)) ∧ Hid (SetV D (fun t => ((bfsL w n s k).drop k).contains t)) ∧ nm ≤ (bfsL w n s k).length) (fun v _ _ _ => P - lenV v)
  case atStart => exact ⟨0, [W.heap.size + 1], 1, _, Nat.zero_le _, ⟨_, _, rfl⟩, ⟨_, rfl, rfl⟩, rfl, st1, hv1, Nat.le_refl _⟩
  case round =>
    clear st1 hv1
    obtain ⟨k, gs, nm, D, hk, ⟨A, c, rfl⟩, ⟨gl, hgl, rfl⟩, ha, st, hv, hnm⟩ := hrel
    obtain ⟨wo, rfl⟩ : ∃ wo : World, wo = wr := ⟨_, rfl⟩
    have hlen := HLEN.out k
    by_cases hlt : k < (bfsL w n s k).length
    · obtain ⟨hx, hat, hlq, hjq, hnx⟩ := HAT.out k hlt
      have hhd := hide (HHD.out k hlt)
      have hnd := hide (HND.out k)
      have HATT := hide hat
      have HLQ := hide hlq
      have HJQ := hide hjq
      have HNX := hide hnx
      have hJl' := hJl.out ((bfsL w n s k)[k]?.getD 0)
      have htk := hide (natI_take (bfsL w n s k) hlt)
      have hdn := hide (drop_next (bfsL w n s k) hnd.out hlt)
      obtain ⟨g, hg, hgB, hgs, bxg⟩ := st.chain.at_ hlt
      have HG := hide hg
      have hnv : nextV gs k = .pointer (some ⟨g, 0, none⟩) := by unfold nextV; rw [hg]; rfl
      have ha' := ha.out
      rw [hnv] at ha'
      subst ha'
      clear HAT HHD HSTOP hat hlq hjq hnx hnv ha hg
      generalize hxo : (bfsL w n s k)[k]?.getD 0 = x at *
      generalize bfsL w n s k = o at *
      have HXO := hide hxo
      clear hxo
      have HJx := hide (HJO.out x hx)
      generalize jumpL w n x = J at *
      have hx4 : x < 4096 := by rw [HP.out] at hx; omega
      have hxw := key_wf (y := x) (by omega)
      have ST := hide st
      have hdone : (natI (o.take k)).length = k := by rw [natI_len, List.length_take]; omega
      have own1 := (st.own).alloc (.cells #[.int .i64 (x : Int)] 3)
      rw [hdone] at own1
      have hz1 := hide (st.alloc (.cells #[.int .i64 (x : Int)] 3)).below.size
      have kg := bxg.cell 0
      have GG := hide (And.intro hgB hgs)
      have HDN := hide hdone
      clear hx hdone st bxg hgB hgs
      go_wp2_with (first
        | (at_delete; refine wpList_delete_own _ rfl _ _ 163 3 rfl 4 mlawP Tryz.underlying163 _ (W.heap.size + 1 + 1) nm D rfl st5.map _ _ rfl (keyOf_int_mk Tryz.underlying3 hxw) ?_
           intro w6 own6 ht6
           have st6 := st5.mapped ht6.grown own6)
        | (at_builtin; refine put_own rfl (.tmp 25) (.tmp 30) rfl Tryz.underlying35 elem_int' rfl own1 rfl (m := 1) (news := [.int .i64 (x : Int)]) rfl (row_new _ _ _ (by first | rfl | simp)) (by simp [Value.oneCell']) (by omega) (by omega) hz1.out ?_
           intro v5 w5 own5 hg5 ho5
           have own5' : w5.ownsRow W.heap.size 3 1 v5 (natI (o.take (k + 1))).length (ints (natI (o.take (k + 1)))) := by
             rw [htk.out, List.length_append, HDN.out]
             simpa [ints] using own5
           have st5 := (ST.out.alloc (.cells #[.int .i64 (x : Int)] 3)).row hg5 own5'
           obtain ⟨g', hg', _, _, bx5⟩ := st5.chain.at_ hlt
           have hg' : g = g' := by have h1 := HG.out; rw [hg'] at h1; injection h1 with h1; exact h1.symm
           subst hg'
           have k5 := bx5.cell 0
           rw [HXO.out] at k5
           clear own5 hg5 ho5 own5' bx5 kg own1)
        | go_in)
      have hv6 : Hid (SetV (D.del (.int .i64 (x : Int))) (fun t => (o.drop (k + 1)).contains t)) := hide ((hv.out.del x).congr fun t => hdn.out t)
      have hl5 : (natI (o.take (k + 1))).length = k + 1 := by rw [natI_len, List.length_take]; omega
      obtain ⟨A5, c5, rfl, _⟩ := own_row st6.own
      rw [hl5]
      have HL5 := hide hl5
      obtain ⟨g', hg', _, _, bx6⟩ := st6.chain.at_ hlt
      have hgg : g = g' := by have h1 := HG.out; rw [hg'] at h1; injection h1 with h1; exact h1.symm
      subst hgg
      have k6 : w6.drew.cell? ⟨g, 0, none⟩ = some (.int .i64 (x : Int)) := by have := bx6.cell 0; rw [HXO.out] at this; exact this
      have k7 : w6.drew.cell? ⟨W.heap.size, 0, none⟩ = some (.int .i64 (w : Int)) := st6.board.cell 0
      have k8 : w6.drew.cell? ⟨W.heap.size, 1, none⟩ = some (.int .i64 (h : Int)) := st6.board.cell 1
      have ST6 := hide st6.drew
      clear st5 st6 own6 ht6 hv hdn hl5 hg' bx6 k5 ST hz1 hxw HDN htk
      go_region_held3 (fun w' => w'.cell? ⟨g, 0, none⟩ = some (.int .i64 (x : Int)) ∧ w'.cell? ⟨W.heap.size, 0, none⟩ = some (.int .i64 (w : Int)) ∧ w'.cell? ⟨W.heap.size, 1, none⟩ = some (.int .i64 (h : Int))) (go_keep)
        (first
          | (go_at_call 108; refine (HJx.out _).mono ?_
             rintro e w7 ⟨vj, rfl, oj, bj⟩
             have st7 := ST6.out.then bj
             have oj := own_mono oj ST6.out.below.size
             obtain ⟨g7, hg7, _, _, bx7⟩ := st7.chain.at_ hlt
             have hgg7 : g = g7 := by have h1 := HG.out; rw [hg7] at h1; injection h1 with h1; exact h1.symm
             have k17 := bx7.cell 0
             rw [HXO.out, ← hgg7] at k17
             have k18 := st7.board.cell 0
             have k19 := st7.board.cell 1
             have hvj : ∃ A c, vj = .slice A J.length c := by obtain ⟨A, c, e, _⟩ := own_row oj; exact ⟨A, c, e⟩
             obtain ⟨Aj, cj, rfl⟩ := hvj
             clear bj hg7 bx7 hgg7)
          | fail)
      clear k6 k7 k8 k17 k18 k19 ST6
      go_wp2_with fail
      go_loopw [6, 44] (fun l i wr => ∃ (q : Nat) (gs' : List Nat) (nm' : Nat) (D' : DataW Unit), q ≤ J.length ∧ i = .int .i64 (q : Int) ∧ (∃ gl', gs'[(putsTo x J o q).length - 1]? = some gl' ∧ l = .pointer (some ⟨gl', 0, none⟩)) ∧ Hid (gs'[k]? = some g) ∧
          StP W wr (w : Int) (h : Int) gs' (putsTo x J o q) nm' D' (.slice A5 (k + 1) c5) (natI (o.take (k + 1))) ∧ Hid (SetV D' (fun t => ((putsTo x J o q).drop (k + 1)).contains t)) ∧ nm' ≤ (putsTo x J o q).length ∧ wr.ownsRow W.heap.size 167 3 (.slice Aj J.length cj) J.length (cells3 J)) (fun _ i _ => J.length - (intOf i).toNat)
      case atStart => exact ⟨0, gs, nm, _, Nat.zero_le _, rfl, ⟨gl, hgl, rfl⟩, HG, by have := st7; rw [HL5.out] at this; exact this, hv6, hnm, oj⟩
      case round =>
        clear st7 oj hgl hv6 hnm
        obtain ⟨q, gs', nm', D', hq, rfl, ⟨gl', hgl', rfl⟩, hgk, st, hv, hnm', oj⟩ := hrel
        obtain ⟨wi, rfl⟩ : ∃ wi : World, wi = wr := ⟨_, rfl⟩
        have zi := st.below.size
        by_cases hql : q < J.length
        · obtain ⟨t1, t2, t3⟩ := HATT.out q
          have t4 := HLQ.out q hq
          rw [HP.out] at t4
          obtain ⟨j1, j2⟩ := HJQ.out q hql
          rw [HP.out] at j2
          have hhq := hhd.out q hql
          obtain ⟨gj, cj', ej, _, _⟩ := own_addrP oj (by omega)
          injection ej with ej _ ec
          subst ej
          subst ec
          obtain ⟨cc0, cc1, cc2⟩ := cells3_at J q hql
          have rj := own_reads oj
          have r0 : wi.cell? ⟨gj, q * 3, none⟩ = some (.int .i64 (((J[q]?.getD (0, 0, 0)).1 : Nat) : Int)) := by
            obtain ⟨hl, e⟩ := List.getElem?_eq_some_iff.1 cc0
            obtain ⟨_, ⟨rfl⟩, hc⟩ := rj (q * 3) hl
            rw [add0P] at hc
            rw [hc, e]
          have r1 : wi.cell? ⟨gj, q * 3 + 1, none⟩ = some (.int .i64 (((J[q]?.getD (0, 0, 0)).2.1 : Nat) : Int)) := by
            obtain ⟨hl, e⟩ := List.getElem?_eq_some_iff.1 cc1
            obtain ⟨_, ⟨rfl⟩, hc⟩ := rj (q * 3 + 1) hl
            rw [add0P] at hc
            rw [hc, e]
          have r2 : wi.cell? ⟨gj, q * 3 + 2, none⟩ = some (.int .i64 (((J[q]?.getD (0, 0, 0)).2.2 : Nat) : Int)) := by
            obtain ⟨hl, e⟩ := List.getElem?_eq_some_iff.1 cc2
            obtain ⟨_, ⟨rfl⟩, hc⟩ := rj (q * 3 + 2) hl
            rw [add0P] at hc
            rw [hc, e]
          have HBJ := hide (fun w6 => HAS.out x (J[q]?.getD (0, 0, 0)) hx4 j1 w6)
          have HPT := hide (show putsTo x J o (q + 1) = putN (putsTo x J o q) (behindP x (J[q]?.getD (0, 0, 0))) from rfl)
          generalize behindP x (J[q]?.getD (0, 0, 0)) = y at *
          have hyw := key_wf (y := y) (by omega)
          generalize putsTo x J o q = o' at *
          generalize J[q]?.getD (0, 0, 0) = jj at *
          obtain ⟨ji, jo, jl⟩ := jj
          simp only at r0 r1 r2
          have q0 : (0 : Int) ≤ (q : Int) := by omega
          have q1 : (q : Int) < (J.length : Int) := by omega
          have HQ := hide hql
          have HPL := hide (show k < o'.length ∧ o'.length ≤ 4096 by omega)
          have st8 := (st.alloc (.cells #[.int .i64 (ji : Int), .int .i64 (jo : Int), .int .i64 (jl : Int)] 167)).drew
          have oj8 := oj.alloc (.cells #[.int .i64 (ji : Int), .int .i64 (jo : Int), .int .i64 (jl : Int)] 167)
          have bj8 : Box (wi.alloc (.cells #[.int .i64 (ji : Int), .int .i64 (jo : Int), .int .i64 (jl : Int)] 167)).drew wi.heap.size 167 #[.int .i64 (ji : Int), .int .i64 (jo : Int), .int .i64 (jl : Int)] := Box.new wi 167 #[.int .i64 (ji : Int), .int .i64 (jo : Int), .int .i64 (jl : Int)]
          have m0 := bj8.cell 0
          have m1 := bj8.cell 1
          have m2 := bj8.cell 2
          obtain ⟨g8, hg8, _, _, bx8⟩ := st8.chain.at_ t2
          have hgg8 : g = g8 := by have h1 := hgk.out; rw [hg8] at h1; injection h1 with h1; exact h1.symm
          have m3 := bx8.cell 0
          rw [t1, ← hgg8] at m3
          have ST8 := hide st8
          have OJ8 := hide (show (wi.alloc (.cells #[.int .i64 (ji : Int), .int .i64 (jo : Int), .int .i64 (jl : Int)] 167)).drew.ownsRow W.heap.size 167 3 (.slice (some ⟨gj, 0, none⟩) J.length cj) J.length (cells3 J) from oj8)
          clear t1 t2 t3 t4 j1 cc0 cc1 cc2 rj st oj st8 oj8 bj8 hg8 bx8 hgg8
          go_wp2_with fail
          go_region_held3 (fun w' => w'.cell? ⟨wi.heap.size, 0, none⟩ = some (.int .i64 (ji : Int)) ∧ w'.cell? ⟨wi.heap.size, 1, none⟩ = some (.int .i64 (jo : Int)) ∧ w'.cell? ⟨wi.heap.size, 2, none⟩ = some (.int .i64 (jl : Int)) ∧ w'.cell? ⟨g, 0, none⟩ = some (.int .i64 (x : Int))) (go_keep)
            (first
              | (go_at_call 109; refine (HBJ.out _).mono ?_
                 rintro e w8 ⟨rfl, b8⟩
                 have st9 := ST8.out.then b8
                 have oj9 := own_below OJ8.out b8
                 have n0 := (b8.cell (World.block_lt_of_cell? _ _ m0)).trans m0
                 have n1 := (b8.cell (World.block_lt_of_cell? _ _ m1)).trans m1
                 have n2 := (b8.cell (World.block_lt_of_cell? _ _ m2)).trans m2
                 have n3 := (b8.cell (World.block_lt_of_cell? _ _ m3)).trans m3
                 clear b8)
              | fail)
          clear m0 m1 m2 m3 n0 n1 n2 n3 ST8 OJ8 HBJ
          cases hcon : o'.contains y with
          | true =>
            have HO := hide (HPT.out.trans (put_old hcon))
            have hlk : D'.atKey (.int .i64 (y : Int)) (.lit (.bool false)) = .lit (.bool true) := (hv.out.2 y).trans (by show DataW.lit (Lit.bool ((o'.drop (k + 1)).contains y)) = _; rw [← hhq, hcon])
            clear hcon hhq HPT hhd
            go_wp2_with (first
              | (at_lookup; refine wpList_lookup_own_bool _ rfl _ _ 163 rfl 3 4 mlawP Tryz.underlying163 Tryz.underlying4 (mzeroP _) (W.heap.size + 1 + 1) nm' D' rfl st9.map _ _ rfl (keyOf_int_mk Tryz.underlying3 hyw) true hlk ?_)
              | go_in)
            exact ⟨⟨q + 1, gs', nm', D', HQ.out, by go_num, ⟨gl', by rw [HO.out]; exact hgl', rfl⟩, hgk, by rw [HO.out]; exact st9, by rw [HO.out]; exact hv, by rw [HO.out]; exact hnm', oj9⟩, by simp [intOf]; omega⟩
          | false =>
            have HO := hide (HPT.out.trans (put_new hcon))
            have hlk : D'.atKey (.int .i64 (y : Int)) (.lit (.bool false)) = .lit (.bool false) := (hv.out.2 y).trans (by show DataW.lit (Lit.bool ((o'.drop (k + 1)).contains y)) = _; rw [← hhq, hcon])
            clear hcon hhq HPT hhd
            go_wp2_with (first
              | (at_lookup; refine wpList_lookup_own_bool _ rfl _ _ 163 rfl 3 4 mlawP Tryz.underlying163 Tryz.underlying4 (mzeroP _) (W.heap.size + 1 + 1) nm' D' rfl st9.map _ _ rfl (keyOf_int_mk Tryz.underlying3 hyw) false hlk ?_)
              | (at_mapUpdate; refine wpList_mapUpdate_own _ rfl _ _ _ 163 rfl 3 4 mlawP Tryz.underlying163 (plainElem Tryz.prog 4) (W.heap.size + 1 + 1) nm' D' rfl st9.map (by have := HPL.out; unfold maxLen; omega) _ _ _ rfl rfl (keyOf_int_mk Tryz.underlying3 hyw) _ [] (plainElem_bool Tryz.underlying4 true) ?_
                 intro w10 own10 hg10
                 have st10 := st9.mapped hg10 own10
                 have oj10 := (oj9.kept hg10 (.inr (own_nemap oj9 st9.map))).alloc (.cells #[.int .i64 (y : Int), .pointer none] 162)
                 have st11 := st10.alloc (.cells #[.int .i64 (y : Int), .pointer none] 162)
                 obtain ⟨gq, hgq, _, _, bq⟩ := st11.chain.at_ (j := o'.length - 1) (by have := HPL.out; omega)
                 have hgq' : gl' = gq := by rw [hgl'] at hgq; injection hgq
                 subst hgq'
                 have p0 := bq.cell 1
                 have p1 := bq.free 1
                 have OJ := hide (oj10.kept (grown_setP _ ⟨gl', 1, none⟩ (.pointer (some ⟨w10.heap.size, 0, none⟩))) (.inr (own_ne oj10 bq (by decide))))
                 have ST := hide (st10.push hgl' (by have := HPL.out; omega) y)
                 have HLEN2 := hide st10.chain.len
                 clear own10 hg10 st10 oj10 st11 hgq bq)
              | go_in)
            refine ⟨⟨q + 1, gs' ++ [w10.heap.size], nm' + 1, _, HQ.out, by go_num, ⟨w10.heap.size, ?_, rfl⟩, ?_, by rw [HO.out]; exact ST.out, ?_, by rw [HO.out, List.length_append]; simpa using hnm', OJ.out⟩, by simp [intOf]; omega⟩
            · rw [HO.out, List.length_append, List.length_singleton, Nat.add_sub_cancel, ← HLEN2.out, List.getElem?_append_right (Nat.le_refl _)]
              simp
            · have := hgk.out
              show _ = _
              rw [List.getElem?_append_left (List.getElem?_eq_some_iff.1 this).1]
              exact this
            · rw [HO.out]
              exact (hv.out.put y).congr fun t => drop_push o' (show k + 1 ≤ o'.length from HPL.out.1) y t
        · obtain rfl : q = J.length := by omega
          obtain ⟨t1, t2, t3⟩ := HATT.out J.length
          obtain ⟨g8, hg8, _, _, bx8⟩ := st.chain.at_ t2
          have hgg8 : g = g8 := by have h1 := hgk.out; rw [hg8] at h1; injection h1 with h1; exact h1.symm
          have m1 := bx8.cell 1
          rw [← hgg8] at m1
          have hsets : natI (o.take (k + 1)) = natI ((bfsL w n s (k + 1)).take (k + 1)) := by
            rw [HNX.out]
            obtain ⟨e, he⟩ := puts_pre x J o J.length
            rw [he, List.take_append_of_le_length (by omega)]
          rw [← HNX.out] at hgl' hnm' hv st t2
          rw [hsets] at st
          have ST := hide st
          have HT2 := hide t2
          have hlen' := hide hlen
          have hlt' := hide hlt
          clear t1 t2 t3 hg8 bx8 hgg8 hsets st hlen hlt HATT hhd HLQ HJQ oj
          go_wp2_with fail
          exact ⟨⟨k + 1, gs', nm', D', HT2.out, ⟨_, _, rfl⟩, ⟨gl', hgl', rfl⟩, rfl, ST.out, hv, hnm'⟩, by have := hlen'.out; have := hlt'.out; simp [lenV]; omega⟩
    · have hkl : (bfsL w n s k).length = k := by omega
      have HE := hide (HSTOP.out k hkl)
      have hnv : nextV gs k = .pointer none := by
        unfold nextV
        rw [List.getElem?_eq_none (by rw [st.chain.len]; omega)]
        rfl
      have ha' := ha.out
      rw [hnv] at ha'
      subst ha'
      have hown := st.own
      have hb := st.below
      rw [List.take_of_length_le (by omega)] at hown
      have HS := hide (sort_c (.slice A k c) W.heap.size (natI (bfsL w n s k)) wo hown (by rw [natI_len]; omega))
      have hb' := hide hb
      have hown' := hide hown
      clear ha hnv st hv hnm hown hb
      go_wp2_with fail
      refine HS.out.mono ?_
      rintro e w9 ⟨rfl, o9, g9⟩
      go_wp2_with fail
      go_ret
      refine ⟨_, rfl, ?_, below_grown hb'.out hb'.out.size hown'.out (Nat.le_refl _) g9⟩
      rw [HE.out, ascP_eq]
      rw [natI_len] at o9
      exact o9
end Go.Proofs.YtmfdlijkpdgimaaGreatDoor

/-
  The program's pegs: litBoard, of one set.
-/
namespace Go.Proofs.YtmfdlijkpdgimaaGreatDoor
open Go.RowKit
set_option linter.unusedVariables false

/-- litBoard, of one set. -/
theorem lit1_c (bc br s : Int) (W : World) :
    (∃ w h x : Nat, bc = (w : Int) ∧ br = (h : Int) ∧ s = (x : Int) ∧ (1 ≤ w ∧ w ≤ 5) ∧ (1 ≤ h ∧ h ≤ 5) ∧ w * h ≤ 12 ∧ x < 2 ^ (w * h) ∧ Calls Tryz.prog 80 #[.int .i64 bc, .int .i64 br, .slice (some ⟨W.heap.size, 0, none⟩) 1 1] (W.alloc (.cells #[.int .i64 s] 3)) (Plain (.tuple #[boardV (w : Int) (h : Int), .bool true]) (W.alloc (.cells #[.int .i64 s] 3)))) ∨
    (¬ PegS bc br s ∧ Calls Tryz.prog 80 #[.int .i64 bc, .int .i64 br, .slice (some ⟨W.heap.size, 0, none⟩) 1 1] (W.alloc (.cells #[.int .i64 s] 3)) (Plain (.tuple #[boardV 0 0, .bool false]) (W.alloc (.cells #[.int .i64 s] 3)))) := by
  rcases litBoard_cP bc br (some ⟨W.heap.size, 0, none⟩) 1 [s] (W.alloc (.cells #[.int .i64 s] 3)) (row_new W #[.int .i64 s] 3 rfl) (by simp) with ⟨w, h, rfl, rfl, hw, hh, h12, hS, hC⟩ | ⟨hN, hC⟩
  · left
    obtain ⟨s0, s1⟩ := hS 0 (by simp)
    simp only [List.getElem?_cons_zero, Option.getD_some] at s0 s1
    obtain ⟨x, rfl⟩ := Int.eq_ofNat_of_zero_le s0
    have := Nat.two_pow_pos (w * h)
    exact ⟨w, h, x, rfl, rfl, rfl, hw, hh, h12, by omega, hC⟩
  · right
    refine ⟨fun hP => ?_, hC⟩
    rcases hN with hN | hN
    · refine hN fun i hi => ?_
      have : i = 0 := by simpa using hi
      subst this
      exact hP
    · exact hN hP.1

end Go.Proofs.YtmfdlijkpdgimaaGreatDoor

/-
  The program's pegs: fewestOf, ComesFrom, FewestLeft, CanCome.
-/
namespace Go.Proofs.YtmfdlijkpdgimaaGreatDoor
open Go.RowKit
set_option linter.unusedVariables false

/-- The numbers in order, as natural ones. -/
theorem asc_nat (L : List Nat) : ∃ M : List Nat, ascP (natI L) = natI M ∧ M.length = L.length ∧ ∀ y, y ∈ M ↔ y ∈ L := by
  have hperm : (ascP (natI L)).Perm (natI L) := by rw [ascP_eq]; exact List.mergeSort_perm _ _
  have hmem : ∀ z ∈ ascP (natI L), ∃ y : Nat, y ∈ L ∧ z = (y : Int) := fun z hz => by
    have := hperm.mem_iff.1 hz
    unfold natI at this
    obtain ⟨y, hy, e⟩ := List.mem_map.1 this
    exact ⟨y, hy, e.symm⟩
  refine ⟨(ascP (natI L)).map Int.toNat, ?_, ?_, fun y => ?_⟩
  · unfold natI
    rw [List.map_map]
    symm
    refine (List.map_congr_left fun z hz => ?_).trans (List.map_id _)
    obtain ⟨y, _, rfl⟩ := hmem z hz
    rfl
  · rw [List.length_map, hperm.length_eq, natI_len]
  · rw [List.mem_map]
    constructor
    · rintro ⟨z, hz, rfl⟩
      obtain ⟨y, hy, rfl⟩ := hmem z hz
      exact hy
    · intro hy
      exact ⟨(y : Int), hperm.mem_iff.2 (List.mem_map.2 ⟨y, hy, rfl⟩), rfl⟩

set_option maxHeartbeats 1000000 in
theorem fewestOf_c (n : Nat) (L : List Nat) (hn : n ≤ 12) (hL : ∀ y ∈ L, y < 2 ^ n) (h0 : 0 < L.length) (hm : L.length ≤ 4096) (A : Option Addr) (c : Nat) (W : World) (hr : Row W A (ints (natI L))) :
    Calls Tryz.prog 86 #[.slice A L.length c] W fun e w' => e = .returned (.int .i64 ((lstTo n L (cntB (L[0]?.getD 0) n) L.length : Nat) : Int)) ∧ W = w' := by
  have HE := hide (fun (k : Nat) (hk : k < L.length) w5 => show Calls Tryz.prog 85 #[.int .i64 ((L[k]?.getD 0 : Nat) : Int)] w5 fun e w' => e = .returned (.int .i64 ((cntB (L[k]?.getD 0) n : Nat) : Int)) ∧ w5 = w' by
    have hy : L[k]?.getD 0 < 2 ^ n := by rw [List.getElem?_eq_getElem hk]; exact hL _ (List.getElem_mem _)
    have := sizeOf_12P (L[k]?.getD 0) (peg_lt hn hy) w5
    rwa [pc_cnt hn hy] at this)
  have HC12 := hide (fun y => Nat.le_trans (cnt_le y n) hn)
  obtain ⟨ad, rfl, hc0⟩ := hr.int (k := 0) (by rw [natI_len]; exact h0)
  rw [natI_at] at hc0
  have hc0 : W.cell? ad = some (.int .i64 ((L[0]?.getD 0 : Nat) : Int)) := hc0
  have HE0 := hide (fun w5 => HE.out 0 h0 w5)
  have R2 := hide hr
  have hb12 := HC12.out (L[0]?.getD 0)
  clear hr hL
  generalize L[0]?.getD 0 = y0 at *
  generalize cntB y0 n = b at *
  have l0 : (0 : Int) < (L.length : Int) := by omega
  go_enter Tryz.func86, Tryz.ntmps86
  go_wp2_with fail
  refine (HE0.out _).mono ?_
  rintro e w1 ⟨rfl, rfl⟩
  clear hc0
  go_wp2_with fail
  go_loopw [3, 12] (fun v i wr => ∃ k : Nat, k ≤ L.length ∧ i = .int .i64 (k : Int) ∧ v = .int .i64 ((lstTo n L b k : Nat) : Int) ∧ W = wr) (fun _ i _ => L.length - (intOf i).toNat)
  case atStart => exact ⟨0, Nat.zero_le _, rfl, rfl, rfl⟩
  case round =>
    obtain ⟨k, hk, rfl, rfl, rfl⟩ := hrel
    have hbk := lst_most (n := n) (L := L) (b := b) k
    by_cases hlt : k < L.length
    · obtain ⟨ad', e', hck⟩ := R2.out.int (k := k) (by rw [natI_len]; exact hlt)
      injection e' with e'
      subst e'
      rw [natI_at] at hck
      have HEk := hide (fun w5 => HE.out k hlt w5)
      have hS := hide (show lstTo n L b (k + 1) = min (lstTo n L b k) (cntB (L[k]?.getD 0) n) from rfl)
      have hc := HC12.out (L[k]?.getD 0)
      have k0 : (0 : Int) ≤ (k : Int) := by omega
      have k1 : (k : Int) < (L.length : Int) := by omega
      generalize L[k]?.getD 0 = y at *
      generalize cntB y n = c at *
      generalize lstTo n L b k = a at *
      rcases Nat.le_total a c with hac | hac
      · have hac' : (a : Int) ≤ (c : Int) := by omega
        have HS := hide (hS.out.trans (Nat.min_eq_left hac))
        clear hS
        go_wp2_with fail
        refine (HEk.out _).mono ?_
        rintro e w3 ⟨rfl, rfl⟩
        go_wp2_with fail
        all_goals exact ⟨⟨k + 1, hlt, by go_num, by rw [HS.out]; first | rfl | (congr 1; omega) | (exact congrArg (Value.int .i64) (by omega)), trivial⟩, by simp [intOf]; omega⟩
      · have hac' : (c : Int) ≤ (a : Int) := by omega
        have HS := hide (hS.out.trans (Nat.min_eq_right hac))
        clear hS
        go_wp2_with fail
        refine (HEk.out _).mono ?_
        rintro e w3 ⟨rfl, rfl⟩
        go_wp2_with fail
        all_goals exact ⟨⟨k + 1, hlt, by go_num, by rw [HS.out]; first | rfl | (congr 1; omega) | (exact congrArg (Value.int .i64) (by omega)), trivial⟩, by simp [intOf]; omega⟩
    · obtain rfl : k = L.length := by omega
      go_wp2_with fail
      go_ret
      exact ⟨rfl, rfl⟩

theorem implFewestLeft_c (bc br s : Int) (W : World) : Calls Tryz.prog 61 #[.int .i64 bc, .int .i64 br, .int .i64 s] W (Plain (.int .i64 (fewV bc br s)) W) := by
  rcases lit1_c bc br s W with ⟨w, h, x, rfl, rfl, rfl, hw, hh, h12, hx, hC⟩ | ⟨hN, hC⟩
  · have HC := hide hC
    obtain ⟨M, hM, hMl, hMm⟩ := asc_nat (comeL w (w * h) x)
    have HF := hide (fun w6 => show Calls Tryz.prog 87 #[boardV (w : Int) (h : Int), .int .i64 (x : Int)] w6 (Owns 3 1 M.length (ints (natI M)) w6) by
      have := comesFrom_c w h x w6 hw hh h12 hx
      rwa [hM, ← hMl] at this)
    have hMc : ∀ y, y ∈ M ↔ Comes w (w * h) x y := fun y => (hMm y).trans (come_mem hw.1 hx)
    have hx0 : x ∈ M := (hMc x).2 .self
    have hM0 : 0 < M.length := List.length_pos_of_mem hx0
    have hfew : lstTo (w * h) M (cntB (M[0]?.getD 0) (w * h)) M.length = fewL w (w * h) x := few_any hw.1 hx hMc ⟨M[0], List.getElem_mem _, by rw [List.getElem?_eq_getElem hM0]; rfl⟩
    have HO := hide (fun (A : Option Addr) (c : Nat) w6 hr => fewestOf_c (w * h) M h12 (fun y hy => come_lt hw.1 hx ((hMm y).1 hy)) hM0 (by rw [hMl]; exact Nat.le_trans (come_len hw.1 hx) (pow12 h12).2) A c w6 hr)
    rw [hfew] at HO
    rw [fewV_nat hw hh h12 hx]
    generalize fewL w (w * h) x = res at *
    clear hC hx hw hh h12 hM hMl hMm hMc hx0 hM0 hfew
    go_enter Tryz.func61, Tryz.ntmps61
    go_wp2_with fail
    refine HC.out.mono ?_
    rintro e w1 ⟨rfl, b1⟩
    have hb1 : Below W.heap.size W w1 := below_then ((Below.refl _ _).alloc (Nat.le_refl _) _) (by simp) b1
    have hb2 := hb1.alloc hb1.size (.cells #[.int .i64 (w : Int), .int .i64 (h : Int)] 40)
    clear b1 HC
    go_wp2_with fail
    refine (HF.out _).mono ?_
    rintro e w2 ⟨v2, rfl, o2, b2⟩
    obtain ⟨A2, c2, rfl, _, _, r2, _⟩ := own_row o2
    go_wp2_with fail
    refine (HO.out _ _ _ r2).mono ?_
    rintro e w3 ⟨rfl, rfl⟩
    go_wp2_with fail
    go_ret
    exact ⟨rfl, below_then hb2 hb2.size b2⟩
  · have hc : fewV bc br s = -1 := by unfold fewV; rw [if_neg hN]
    have HC := hide hC
    rw [hc]
    clear hC hc hN
    go_enter Tryz.func61, Tryz.ntmps61
    go_wp2_with fail
    refine HC.out.mono ?_
    rintro e w1 ⟨rfl, b1⟩
    have hb1 : Below W.heap.size W w1 := below_then ((Below.refl _ _).alloc (Nat.le_refl _) _) (by simp) b1
    go_wp2_with fail
    go_ret
    exact ⟨rfl, hb1.alloc hb1.size _⟩
theorem asc_has (L : List Nat) (b : Nat) : (ascP (natI L)).contains (b : Int) = L.contains b := by
  have hperm : (ascP (natI L)).Perm (natI L) := by rw [ascP_eq]; exact List.mergeSort_perm _ _
  rw [← natI_has, Bool.eq_iff_iff, List.contains_iff_mem, List.contains_iff_mem]
  exact hperm.mem_iff
end Go.Proofs.YtmfdlijkpdgimaaGreatDoor
