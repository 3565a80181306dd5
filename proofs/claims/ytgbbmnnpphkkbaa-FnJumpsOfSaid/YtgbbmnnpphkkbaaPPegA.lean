
/-
  The program's pegs: words of boards, of litBoard, of sizes of sets.
-/
import Derived.Test.YtgbbmnnpphkkbaaMoveC
import Derived.Test.YtgbbmnnpphkkbaaSorted
import Derived.Test.YtgbbmnnpphkkbaaPegF
import Derived.Deep.RegionHeld3
import Derived.Lib.MinMax
namespace Go.Proofs.Ytgbbmnnpphkkbaa
open Go.RowKit
set_option linter.unusedVariables false

theorem onward_anyP (bc br cell dr dc : Int) (w : World) (h1 : 1 ≤ bc) (h2 : bc ≤ 5) (h3 : 1 ≤ br) (h4 : br ≤ 5) (g1 : 0 ≤ cell) (g2 : cell < 25) (g3 : -2 ≤ dr) (g4 : dr ≤ 2) (g5 : -2 ≤ dc) (g6 : dc ≤ 2) :
    Calls Try.prog 47 #[boardV bc br, .int .i64 cell, .agg #[.int .i64 dr, .int .i64 dc]] w (Plain (.tuple #[.int .i64 (onP (nextP bc br dr dc cell)).1, .bool (onP (nextP bc br dr dc cell)).2]) w) := by
  unfold nextP
  by_cases h : 0 ≤ cell / bc + dr ∧ cell / bc + dr < br ∧ 0 ≤ cell % bc + dc ∧ cell % bc + dc < bc
  · rw [if_pos h]
    obtain ⟨a, b, c, d⟩ := h
    exact onward_yes bc br cell dr dc w h1 h2 h3 h4 g1 g2 g3 g4 g5 g6 a b c d
  · rw [if_neg h]
    exact onward_no bc br cell dr dc w h1 h2 h3 h4 g1 g2 g3 g4 g5 g6 h
/-- The address is a plain one. -/
def FlatP (O : Option Addr) : Prop := ∀ ad, O = some ad → ∃ b off, ad = ⟨b, off, none⟩
theorem contains_cP (O : Option Addr) (l : List Int) (oc : Nat) (x : Int) (w : World) (hr : Row w O (ints l)) (hf : FlatP O) (hm : l.length ≤ maxLen) :
    Calls Try.prog 52 #[.slice O l.length oc, .int .i64 x] w (Plain (.bool (l.contains x)) w) := by
  rcases l with _ | ⟨y, l⟩
  · exact (Try.slices_Contains_int_empty O oc x w).mono fun e w' ⟨he, hw⟩ => ⟨he, hw ▸ Below.refl _ _⟩
  · obtain ⟨ad, rfl, _⟩ := hr 0 (by simp)
    obtain ⟨b, off, rfl⟩ := hf ad rfl
    unfold maxLen at hm
    refine (Try.slices_Contains_int b off (y :: l).length oc (y :: l) x w (Nat.le_refl _) (by omega) fun j hj => ?_).mono fun e w' ⟨he, hw⟩ => ⟨by simpa using he, hw ▸ Below.refl _ _⟩
    obtain ⟨_, ⟨rfl⟩, hc⟩ := hr.int hj
    rw [← List.getD_eq_getElem?_getD] at hc
    rw [← hc]
    unfold Addr.add
    split
    · subst_vars; rfl
    · rfl
theorem allOf12_cP (n : Nat) (h : n ≤ 12) (w : World) : Calls Try.prog 45 #[.int .i64 (n : Int)] w fun e w' => e = .returned (.int .i64 (((2 ^ n : Nat) : Int) - 1)) ∧ w = w' := by
  have es := shl64 n (by omega)
  have hp := pow12 h
  generalize (2 ^ n : Nat) = P at *
  go_enter Try.func45, Try.ntmps45
  go_wp2
  go_ret
  exact ⟨rfl, rfl⟩
theorem boardEndP {w : World} {g : Nat} {t : TypeId} {x y u v : Value} (h : Box w g t #[x, y]) :
    w.cell? ⟨g, 0, none⟩ = some x ∧ w.frozen? ⟨g, 0, none⟩ = false ∧ (w.setCell ⟨g, 0, none⟩ u).cell? ⟨g, 0, none⟩ = some u ∧ (w.setCell ⟨g, 0, none⟩ u).cell? ⟨g, 1, none⟩ = some y ∧ (w.setCell ⟨g, 0, none⟩ u).frozen? ⟨g, 1, none⟩ = false ∧
    ((w.setCell ⟨g, 0, none⟩ u).setCell ⟨g, 1, none⟩ v).cell? ⟨g, 0, none⟩ = some u ∧ ((w.setCell ⟨g, 0, none⟩ u).setCell ⟨g, 1, none⟩ v).cell? ⟨g, 1, none⟩ = some v :=
  ⟨h.cell 0, h.free 0, (h.set 0 u).cell 0, (h.set 0 u).cell 1, (h.set 0 u).free 1, ((h.set 0 u).set 1 v).cell 0, ((h.set 0 u).set 1 v).cell 1⟩
def InSP (n : Nat) (s : Int) : Prop := 0 ≤ s ∧ s ≤ ((2 ^ n : Nat) : Int) - 1
instance (n : Nat) (s : Int) : Decidable (InSP n s) := by unfold InSP; infer_instance
def SetsNP (n : Nat) (l : List Int) (k : Nat) : Prop := ∀ i, i < k → InSP n (l[i]?.getD 0)
set_option maxHeartbeats 1000000 in
theorem litBoard_no1P (bc br : Int) (A : Option Addr) (l c : Nat) (W : World) (hn : ¬ Brd bc br) :
    Calls Try.prog 28 #[.int .i64 bc, .int .i64 br, .slice A l c] W (Plain (.tuple #[boardV 0 0, .bool false]) W) := by
  have box0 := Box.new W 40 #[.int .i64 0, .int .i64 0]
  have HB := hide (fun w5 => boardOf_no bc br w5 hn)
  clear hn
  go_enter Try.func28, Try.ntmps28
  go_wp2_with fail
  refine (HB.out _).mono ?_
  rintro e w1 ⟨rfl, hb1⟩
  obtain ⟨c1, c2, c3, c4, c5, c6, c7⟩ := boardEndP (u := .int .i64 0) (v := .int .i64 0) (box0.then hb1)
  have bxe := (((box0.then hb1).set 0 (.int .i64 0)).set 1 (.int .i64 0)).alloc (.cells #[.int .i64 0, .int .i64 0] 40)
  have d0 := bxe.cell 0
  have d1 := bxe.cell 1
  simp only [List.setIfInBounds_toArray] at d0 d1
  have z1 : W.heap.size < w1.heap.size := by have := hb1.size; simp at this; omega
  go_wp2_with fail
  refine bodyPost_ret (v := .tuple #[boardV 0 0, .bool false]) (by simp [results, Try.results28, go_sem, d0, d1]) rfl ⟨rfl, ?_⟩
  exact (((below_then ((Below.refl _ _).alloc (Nat.le_refl _) _) (by simp) hb1).setCell (Nat.le_refl _) _).setCell (Nat.le_refl _) _).alloc (by simp; omega) _
set_option maxHeartbeats 1000000 in
theorem litBoard_no2P (bc br : Int) (A : Option Addr) (l c : Nat) (W : World) (hB : Brd bc br) (hn : ¬ bc * br ≤ 12) :
    Calls Try.prog 28 #[.int .i64 bc, .int .i64 br, .slice A l c] W (Plain (.tuple #[boardV 0 0, .bool false]) W) := by
  obtain ⟨h1, h2, h3, h4⟩ := hB
  have box0 := Box.new W 40 #[.int .i64 0, .int .i64 0]
  have HB := hide (fun w5 => boardOf_yes bc br w5 h1 h2 h3 h4)
  have HZ := hide (fun w5 => size_c bc br w5 h1 h2 h3 h4)
  obtain ⟨m, hm⟩ : ∃ m, bc * br = m := ⟨_, rfl⟩
  rw [hm] at HZ hn
  clear hm
  go_enter Try.func28, Try.ntmps28
  go_wp2_with fail
  refine (HB.out _).mono ?_
  rintro e w1 ⟨rfl, hb1⟩
  have box1 := (box0.then hb1).alloc (.cells #[.int .i64 bc, .int .i64 br] 40)
  have hb1 : Below W.heap.size W w1 := below_then ((Below.refl _ _).alloc (Nat.le_refl _) _) (by simp) hb1
  go_wp2_with fail
  refine (HZ.out _).mono ?_
  rintro e w2 ⟨rfl, hb2⟩
  obtain ⟨c1, c2, c3, c4, c5, c6, c7⟩ := boardEndP (u := .int .i64 0) (v := .int .i64 0) (box1.then hb2)
  go_wp2_with fail
  refine bodyPost_ret (v := .tuple #[boardV 0 0, .bool false]) (by simp [results, Try.results28, go_sem, c6, c7]) rfl ⟨rfl, ?_⟩
  exact ((below_then (hb1.alloc hb1.size _) (by have := hb1.size; simp; omega) hb2).setCell (Nat.le_refl _) _).setCell (Nat.le_refl _) _
instance (n : Nat) (l : List Int) (k : Nat) : Decidable (SetsNP n l k) := by unfold SetsNP; infer_instance
/-- What litBoard answers for a board that is small. -/
def litOfP (w h : Nat) (l : List Int) : Value := if SetsNP (w * h) l l.length then .tuple #[boardV (w : Int) (h : Int), .bool true] else .tuple #[boardV 0 0, .bool false]
set_option maxHeartbeats 4000000 in
set_option maxRecDepth 100000 in
theorem litBoard_yesP (w h : Nat) (A : Option Addr) (c : Nat) (l : List Int) (W : World) (hr : Row W A (ints l)) (hw : 1 ≤ w ∧ w ≤ 5) (hh : 1 ≤ h ∧ h ≤ 5) (h12 : w * h ≤ 12) (hm : l.length ≤ 1000) :
    Calls Try.prog 28 #[.int .i64 (w : Int), .int .i64 (h : Int), .slice A l.length c] W (Plain (litOfP w h l) W) := by
  have w1 : (1 : Int) ≤ (w : Int) := by omega
  have w5 : (w : Int) ≤ 5 := by omega
  have h1 : (1 : Int) ≤ (h : Int) := by omega
  have h5 : (h : Int) ≤ 5 := by omega
  have box0 := Box.new W 40 #[.int .i64 0, .int .i64 0]
  have HB := hide (fun w5' => boardOf_yes (w : Int) (h : Int) w5' w1 w5 h1 h5)
  have HZ := hide (fun w6 => by
    have := size_c (w : Int) (h : Int) w6 w1 w5 h1 h5
    rw [← Int.natCast_mul] at this
    exact this)
  have HF := hide (fun w6 => allOf12_cP (w * h) h12 w6)
  have HR := hide hr
  have hp := pow12 h12
  have HY : Hid (SetsNP (w * h) l l.length → litOfP w h l = .tuple #[boardV (w : Int) (h : Int), .bool true]) := fun h' => if_pos h'
  have HNo : Hid (¬ SetsNP (w * h) l l.length → litOfP w h l = .tuple #[boardV 0 0, .bool false]) := fun h' => if_neg h'
  have hin : Hid (∀ s, InSP (w * h) s ↔ 0 ≤ s ∧ s ≤ ((2 ^ (w * h) : Nat) : Int) - 1) := fun s => Iff.rfl
  generalize litOfP w h l = V at *
  generalize w * h = n at *
  generalize (2 ^ n : Nat) = P at *
  have n12 : (n : Int) ≤ 12 := by omega
  clear hr
  go_enter Try.func28, Try.ntmps28
  go_wp2_with fail
  refine (HB.out _).mono ?_
  rintro e w1' ⟨rfl, hb1⟩
  have box1 := (box0.then hb1).alloc (.cells #[.int .i64 (w : Int), .int .i64 (h : Int)] 40)
  have boxb := Box.new w1' 40 #[.int .i64 (w : Int), .int .i64 (h : Int)]
  have hb1 : Below W.heap.size W w1' := below_then ((Below.refl _ _).alloc (Nat.le_refl _) _) (by simp) hb1
  go_wp2_with fail
  refine (HZ.out _).mono ?_
  rintro e w2 ⟨rfl, hb2⟩
  have box2 := box1.then hb2
  have boxb2 := boxb.then hb2
  have zb1 := hb1.size
  have hb2 := below_then (hb1.alloc hb1.size _) (by have := hb1.size; simp; omega) hb2
  obtain ⟨gb, hgb⟩ : ∃ gb, w1'.heap.size = gb := ⟨_, rfl⟩
  rw [hgb] at boxb2 zb1 ⊢
  clear hb1 box0 box1 boxb HB hgb
  have zb2 : W.heap.size < gb := by
    rcases Nat.lt_or_ge W.heap.size gb with h' | h'
    · exact h'
    · have e : gb = W.heap.size := by omega
      subst e
      have := box2.symm.trans boxb2
      simp at this
      omega
  go_wp2_with fail
  go_loopw [28] (fun i wr => ∃ k : Nat, k ≤ l.length ∧ i = .int .i64 (k : Int) ∧ SetsNP n l k ∧ Below W.heap.size W wr ∧ Box wr W.heap.size 40 #[.int .i64 0, .int .i64 0] ∧ Box wr gb 40 #[.int .i64 (w : Int), .int .i64 (h : Int)]) (fun i _ => l.length - (intOf i).toNat)
  case atStart => exact ⟨0, Nat.zero_le _, rfl, fun i hi => absurd hi (by omega), hb2, box2, boxb2⟩
  case round =>
    obtain ⟨k, hk, rfl, hS, hb, bx, bxb⟩ := hrel
    obtain ⟨wo, rfl⟩ : ∃ wo : World, wo = wr := ⟨_, rfl⟩
    have zo := hb.size
    have b0 := bxb.cell 0
    have b1 := bxb.cell 1
    by_cases hlt : k < l.length
    · obtain ⟨ad, rfl, hck⟩ := (HR.out.below hb).int (k := k) hlt
      have HSk : Hid (InSP n (l[k]?.getD 0) → SetsNP n l (k + 1)) := fun h' i hi => by
        by_cases e : i = k
        · subst e; exact h'
        · exact hS i (by omega)
      have HSn : Hid (¬ InSP n (l[k]?.getD 0) → ¬ SetsNP n l l.length) := fun h' hs => h' (hs k hlt)
      generalize l[k]?.getD 0 = x at *
      have k0 : (0 : Int) ≤ (k : Int) := by omega
      have k1 : (k : Int) < (l.length : Int) := by omega
      have HS := hide hS
      clear hS
      by_cases x0 : x < 0
      · have hV := HNo.out (HSn.out (fun h' => by have := (hin.out x).1 h'; omega))
        obtain ⟨c1, c2, c3, c4, c5, c6, c7⟩ := boardEndP (u := .int .i64 0) (v := .int .i64 0) bx
        go_wp2_with fail
        refine bodyPost_ret (v := .tuple #[boardV 0 0, .bool false]) (by simp [results, Try.results28, go_sem, c6, c7]) rfl ⟨by rw [hV], ?_⟩
        exact (hb.setCell (Nat.le_refl _) _).setCell (Nat.le_refl _) _
      · have x0' : 0 ≤ x := by omega
        by_cases xP : x ≤ (P : Int) - 1
        · have HT := hide (HSk.out ((hin.out x).2 ⟨x0', xP⟩))
          go_wp2_with fail
          refine (HZ.out _).mono ?_
          rintro e w3 ⟨rfl, hb3⟩
          go_wp2_with fail
          refine (HF.out _).mono ?_
          rintro e w4 ⟨rfl, rfl⟩
          have bx3 := bx.then hb3
          have bxb3 := bxb.then hb3
          have hb3 := below_then hb hb.size hb3
          go_wp2_with fail
          exact ⟨⟨k + 1, hlt, by go_num, HT.out, hb3, bx3, bxb3⟩, by simp [intOf]; omega⟩
        · have hV := HNo.out (HSn.out (fun h' => by have := (hin.out x).1 h'; omega))
          go_wp2_with fail
          refine (HZ.out _).mono ?_
          rintro e w3 ⟨rfl, hb3⟩
          go_wp2_with fail
          refine (HF.out _).mono ?_
          rintro e w4 ⟨rfl, rfl⟩
          obtain ⟨c1, c2, c3, c4, c5, c6, c7⟩ := boardEndP (u := .int .i64 0) (v := .int .i64 0) (bx.then hb3)
          have hb3 := below_then hb hb.size hb3
          go_wp2_with fail
          refine bodyPost_ret (v := .tuple #[boardV 0 0, .bool false]) (by simp [results, Try.results28, go_sem, c6, c7]) rfl ⟨by rw [hV], ?_⟩
          exact (hb3.setCell (Nat.le_refl _) _).setCell (Nat.le_refl _) _
    · obtain rfl : k = l.length := by omega
      have hV := HY.out hS
      obtain ⟨c1, c2, c3, c4, c5, c6, c7⟩ := boardEndP (u := .int .i64 (w : Int)) (v := .int .i64 (h : Int)) bx
      go_wp2_with fail
      refine bodyPost_ret (v := .tuple #[boardV (w : Int) (h : Int), .bool true]) (by simp [results, Try.results28, go_sem, c6, c7]) rfl ⟨by rw [hV], ?_⟩
      exact (hb.setCell (Nat.le_refl _) _).setCell (Nat.le_refl _) _
theorem litOf_yesP {w h : Nat} {l : List Int} (hs : SetsNP (w * h) l l.length) : litOfP w h l = .tuple #[boardV (w : Int) (h : Int), .bool true] := if_pos hs
theorem litOf_noP {w h : Nat} {l : List Int} (hs : ¬ SetsNP (w * h) l l.length) : litOfP w h l = .tuple #[boardV 0 0, .bool false] := if_neg hs
theorem inS_natP {n x : Nat} (h : x < 2 ^ n) : InSP n (x : Int) := ⟨by omega, by omega⟩
theorem inS_litP {w h : Nat} {s : Int} (hw : 1 ≤ w ∧ w ≤ 5) (hh : 1 ≤ h ∧ h ≤ 5) (h12 : w * h ≤ 12) : PegS (w : Int) (h : Int) s ↔ InSP (w * h) s := by
  unfold PegS InSP
  rw [← Int.natCast_mul, Int.toNat_natCast]
  exact ⟨fun h' => h'.2, fun h' => ⟨lit12P hw hh h12, h'⟩⟩
/-- litBoard, of whatever sets. -/
theorem litBoard_cP (bc br : Int) (A : Option Addr) (c : Nat) (l : List Int) (W : World) (hr : Row W A (ints l)) (hm : l.length ≤ 1000) :
    (∃ w h : Nat, bc = (w : Int) ∧ br = (h : Int) ∧ (1 ≤ w ∧ w ≤ 5) ∧ (1 ≤ h ∧ h ≤ 5) ∧ w * h ≤ 12 ∧ SetsNP (w * h) l l.length ∧ Calls Try.prog 28 #[.int .i64 bc, .int .i64 br, .slice A l.length c] W (Plain (.tuple #[boardV (w : Int) (h : Int), .bool true]) W)) ∨
    ((¬ ∀ i, i < l.length → PegS bc br (l[i]?.getD 0)) ∨ ¬ Lit12 bc br) ∧ Calls Try.prog 28 #[.int .i64 bc, .int .i64 br, .slice A l.length c] W (Plain (.tuple #[boardV 0 0, .bool false]) W) := by
  by_cases hB : Brd bc br
  · by_cases h12 : bc * br ≤ 12
    · obtain ⟨h1, h2, h3, h4⟩ := hB
      obtain ⟨w, rfl⟩ := Int.eq_ofNat_of_zero_le (show 0 ≤ bc by omega)
      obtain ⟨h, rfl⟩ := Int.eq_ofNat_of_zero_le (show 0 ≤ br by omega)
      have h12' : w * h ≤ 12 := by rw [← Int.natCast_mul] at h12; omega
      have := litBoard_yesP w h A c l W hr (by omega) (by omega) h12' hm
      by_cases hs : SetsNP (w * h) l l.length
      · rw [litOf_yesP hs] at this
        exact .inl ⟨w, h, rfl, rfl, by omega, by omega, h12', hs, this⟩
      · rw [litOf_noP hs] at this
        exact .inr ⟨.inl fun h' => hs fun i hi => (inS_litP (by omega) (by omega) h12').1 (h' i hi), this⟩
    · exact .inr ⟨.inr fun h => h12 h.2, litBoard_no2P bc br A l.length c W hB h12⟩
  · exact .inr ⟨.inr fun h => hB h.1, litBoard_no1P bc br A l.length c W hB⟩
end Go.Proofs.Ytgbbmnnpphkkbaa
