
/-
  The program's chases: what is a catch behind each round; catches.
-/
import Derived.Test.YtakphmcelhbaiabPChaseB
namespace Go.Proofs.Ytakphmcelhbaiab
open Go.RowKit Go.Maps
set_option linter.unusedVariables false
set_option maxRecDepth 100000

/-- What is known ahead of round t. -/
def KS (C : List (List Nat)) (t h o : Nat) : Bool := decide (1 ≤ cAt C h o) && decide (cAt C h o ≤ t)
def FV (C : List (List Nat)) (t h o : Nat) : Option Nat := if 1 ≤ cAt C h o ∧ cAt C h o ≤ t then some (cAt C h o - 1) else none
theorem fv_some (C : List (List Nat)) (t h o : Nat) : (FV C t h o).isSome = KS C t h o := by
  unfold FV KS
  by_cases e : 1 ≤ cAt C h o ∧ cAt C h o ≤ t
  · rw [if_pos e, decide_eq_true e.1, decide_eq_true e.2]
    rfl
  · rw [if_neg e, ← Bool.decide_and, decide_eq_false e]
    rfl
theorem esc_all (L : List Nat) (C : List (List Nat)) (t k x : Nat) : ∀ y, escTo L (KS C t) k x y = allTo L C k x t y
  | 0 => rfl
  | y + 1 => by
    show (escTo L (KS C t) k x y && _) = (allTo L C k x t y && _)
    rw [esc_all L C t k x y]
    rfl
theorem turn_can (L : List Nat) (C : List (List Nat)) (t i k : Nat) : ∀ x, turnTo L (KS C t) i k x = canTo L C i k t x
  | 0 => rfl
  | x + 1 => by
    show (turnTo L (KS C t) i k x || (nearN L i x && (x == k || escTo L (KS C t) k x L.length))) = (canTo L C i k t x || (nearN L i x && (x == k || allTo L C k x t L.length)))
    rw [turn_can L C t i k x, esc_all]
theorem found_met {L : List Nat} {C : List (List Nat)} (hC : CatOk L C) {h o : Nat} (hh : h < L.length) (ho : o < L.length) : (!KS C 0 h o && (h == o)) = decide (cAt C h o = 0 + 1) := by
  have e0 : KS C 0 h o = false := by
    unfold KS
    by_cases e : 1 ≤ cAt C h o
    · rw [decide_eq_false (by omega : ¬ cAt C h o ≤ 0), Bool.and_false]
    · rw [decide_eq_false e, Bool.false_and]
  rw [e0]
  by_cases e : h = o
  · subst e
    rw [hC.diag h hh]
    simp
  · rw [decide_eq_false (hC.off h o hh ho e), beq_eq_false_iff_ne.2 e]
    rfl
theorem found_turn {L : List Nat} {C : List (List Nat)} (hC : CatOk L C) {h o t : Nat} (hh : h < L.length) (ho : o < L.length) (h1 : 1 ≤ t) (ht : t ≤ topN C) : (!KS C t h o && turnTo L (KS C t) h o L.length) = decide (cAt C h o = t + 1) := by
  by_cases e : h = o
  · subst e
    have hd := hC.diag h hh
    have : KS C t h h = true := by
      unfold KS
      rw [hd, decide_eq_true (by omega : 1 ≤ 1), decide_eq_true (by omega : 1 ≤ t)]
      rfl
    rw [this, hd, decide_eq_false (by omega : ¬ 1 = t + 1)]
    rfl
  · rw [turn_can, hC.can h o t hh ho e h1 ht]
    have hoff := hC.off h o hh ho e
    unfold KS
    generalize cAt C h o = x at *
    rw [← Bool.decide_and, ← Bool.decide_and, ← decide_not, ← Bool.decide_and]
    exact decide_eq_decide.2 (by omega)

set_option maxHeartbeats 1000000 in
theorem c3_c (g1 g3 g4 : Nat) (A : Option Addr) (c : Nat) (L : List Nat) (P : Nat → Nat → Bool) (i k : Nat) (w : World) (hc1 : w.cell? ⟨g1, 0, none⟩ = some (.slice A L.length c)) (h1 : g1 < w.heap.size)
    (hc4 : w.cell? ⟨g4, 0, none⟩ = some (.func (.func 56) #[] #[.pointer (some ⟨g3, 0, none⟩)])) (h4 : g4 < w.heap.size) (hr : Row w A (ints (natI (nearS L)))) (hL : Sets9 L) (hi : i < L.length) (hk : k < L.length)
    (hf : ∀ h o, h < L.length → o < L.length → ∀ w1, Below w.heap.size w w1 → Calls Try.prog 56 #[placeV h o, .pointer (some ⟨g3, 0, none⟩)] w1 (Plain (.bool (P h o)) w1)) :
    Calls Try.prog 60 #[placeV i k, .pointer (some ⟨g1, 0, none⟩), .pointer (some ⟨g4, 0, none⟩)] w (Plain (.bool (turnTo L P i k L.length)) w) := by
  have hb := (Below.refl w.heap.size w).alloc (Nat.le_refl _) (.cells #[.int .i64 (i : Int), .int .i64 (k : Int)] 85)
  have HT := hide (hasTurn_c A c L P g3 i k (w.alloc (.cells #[.int .i64 (i : Int), .int .i64 (k : Int)] 85)) (hr.alloc _) hL hi hk (fun h o hh ho w1 b1 => hf h o hh ho w1 (below_then hb hb.size b1)))
  have d1 : (w.alloc (.cells #[.int .i64 (i : Int), .int .i64 (k : Int)] 85)).cell? ⟨g1, 0, none⟩ = _ := (World.cell?_alloc_lt w _ ⟨g1, 0, none⟩ h1).trans hc1
  have d4 : (w.alloc (.cells #[.int .i64 (i : Int), .int .i64 (k : Int)] 85)).cell? ⟨g4, 0, none⟩ = _ := (World.cell?_alloc_lt w _ ⟨g4, 0, none⟩ h4).trans hc4
  clear hc1 hc4 hr hL hi hk hf
  generalize turnTo L P i k L.length = r at *
  go_enter Try.func60, Try.ntmps60
  go_wp2_with fail
  refine HT.out.mono ?_
  rintro e w5 ⟨rfl, b5⟩
  go_wp2_with fail
  go_ret
  exact ⟨rfl, below_then hb hb.size b5⟩
set_option maxHeartbeats 1000000 in
theorem c2_met (g3 g4 g5 : Nat) (K : Bool) (h o : Nat) (w : World) (hc4 : w.cell? ⟨g4, 0, none⟩ = some (.func (.func 56) #[] #[.pointer (some ⟨g3, 0, none⟩)])) (h4 : g4 < w.heap.size)
    (hc5 : w.cell? ⟨g5, 0, none⟩ = some (.func (.func 57) #[] #[])) (h5 : g5 < w.heap.size)
    (hk : ∀ w1, Below w.heap.size w w1 → Calls Try.prog 56 #[placeV h o, .pointer (some ⟨g3, 0, none⟩)] w1 (Plain (.bool K) w1)) :
    Calls Try.prog 59 #[placeV h o, .pointer (some ⟨g4, 0, none⟩), .pointer (some ⟨g5, 0, none⟩)] w (Plain (.bool (!K && (h == o))) w) := by
  have hb := (Below.refl w.heap.size w).alloc (Nat.le_refl _) (.cells #[.int .i64 (h : Int), .int .i64 (o : Int)] 85)
  have HK := hide (hk _ hb)
  have bx := Box.new w 85 #[.int .i64 (h : Int), .int .i64 (o : Int)]
  have d4 : (w.alloc (.cells #[.int .i64 (h : Int), .int .i64 (o : Int)] 85)).cell? ⟨g4, 0, none⟩ = _ := (World.cell?_alloc_lt w _ ⟨g4, 0, none⟩ h4).trans hc4
  have d5 : (w.alloc (.cells #[.int .i64 (h : Int), .int .i64 (o : Int)] 85)).cell? ⟨g5, 0, none⟩ = _ := (World.cell?_alloc_lt w _ ⟨g5, 0, none⟩ h5).trans hc5
  have h5' : g5 < (w.alloc (.cells #[.int .i64 (h : Int), .int .i64 (o : Int)] 85)).heap.size := by simp; omega
  have hq := hide (fun w1 (b1 : Below w.heap.size w w1) => isMet_c h o w1)
  have HQ2 : Hid (∀ x : Bool, (!true && x) = false) := fun x => rfl
  have HQ3 : Hid (∀ x : Bool, (!false && x) = x) := fun x => rfl
  clear hc4 hc5 hk
  generalize (h == o) = q at *
  cases K with
  | true =>
    rw [HQ2.out]
    go_enter Try.func59, Try.ntmps59
    go_wp2_with fail
    refine HK.out.mono ?_
    rintro e w5 ⟨rfl, b5⟩
    go_wp2_with fail
    go_ret
    exact ⟨rfl, below_then hb hb.size b5⟩
  | false =>
    rw [HQ3.out]
    go_enter Try.func59, Try.ntmps59
    go_wp2_with fail
    refine HK.out.mono ?_
    rintro e w5 ⟨rfl, b5⟩
    have e5 := (b5.cell h5').trans d5
    have bx5 := bx.then b5
    have n0 := bx5.cell 0
    have n1 := bx5.cell 1
    have hb5 := below_then hb hb.size b5
    clear d4 d5 bx
    go_wp2_with fail
    refine (hq.out _ hb5).mono ?_
    rintro e w6 ⟨rfl, b6⟩
    go_wp2_with fail
    go_ret
    exact ⟨rfl, below_then hb5 hb5.size b6⟩
set_option maxHeartbeats 1000000 in
theorem c2_turn (g3 g4 g5 : Nat) (g1 : Nat) (Q : Bool) (K : Bool) (h o : Nat) (w : World) (hc4 : w.cell? ⟨g4, 0, none⟩ = some (.func (.func 56) #[] #[.pointer (some ⟨g3, 0, none⟩)])) (h4 : g4 < w.heap.size)
    (hc5 : w.cell? ⟨g5, 0, none⟩ = some (.func (.func 60) #[] #[.pointer (some ⟨g1, 0, none⟩), .pointer (some ⟨g4, 0, none⟩)])) (h5 : g5 < w.heap.size)
    (hk : ∀ w1, Below w.heap.size w w1 → Calls Try.prog 56 #[placeV h o, .pointer (some ⟨g3, 0, none⟩)] w1 (Plain (.bool K) w1))
    (hq : ∀ w1, Below w.heap.size w w1 → Calls Try.prog 60 #[placeV h o, .pointer (some ⟨g1, 0, none⟩), .pointer (some ⟨g4, 0, none⟩)] w1 (Plain (.bool Q) w1)) :
    Calls Try.prog 59 #[placeV h o, .pointer (some ⟨g4, 0, none⟩), .pointer (some ⟨g5, 0, none⟩)] w (Plain (.bool (!K && Q)) w) := by
  have hb := (Below.refl w.heap.size w).alloc (Nat.le_refl _) (.cells #[.int .i64 (h : Int), .int .i64 (o : Int)] 85)
  have HK := hide (hk _ hb)
  have bx := Box.new w 85 #[.int .i64 (h : Int), .int .i64 (o : Int)]
  have d4 : (w.alloc (.cells #[.int .i64 (h : Int), .int .i64 (o : Int)] 85)).cell? ⟨g4, 0, none⟩ = _ := (World.cell?_alloc_lt w _ ⟨g4, 0, none⟩ h4).trans hc4
  have d5 : (w.alloc (.cells #[.int .i64 (h : Int), .int .i64 (o : Int)] 85)).cell? ⟨g5, 0, none⟩ = _ := (World.cell?_alloc_lt w _ ⟨g5, 0, none⟩ h5).trans hc5
  have h5' : g5 < (w.alloc (.cells #[.int .i64 (h : Int), .int .i64 (o : Int)] 85)).heap.size := by simp; omega
  have hq := hide (fun w1 (b1 : Below w.heap.size w w1) => hq w1 b1)
  have HQ2 : Hid (∀ x : Bool, (!true && x) = false) := fun x => rfl
  have HQ3 : Hid (∀ x : Bool, (!false && x) = x) := fun x => rfl
  clear hc4 hc5 hk
  obtain ⟨q, rfl⟩ : ∃ q, q = Q := ⟨_, rfl⟩
  cases K with
  | true =>
    rw [HQ2.out]
    go_enter Try.func59, Try.ntmps59
    go_wp2_with fail
    refine HK.out.mono ?_
    rintro e w5 ⟨rfl, b5⟩
    go_wp2_with fail
    go_ret
    exact ⟨rfl, below_then hb hb.size b5⟩
  | false =>
    rw [HQ3.out]
    go_enter Try.func59, Try.ntmps59
    go_wp2_with fail
    refine HK.out.mono ?_
    rintro e w5 ⟨rfl, b5⟩
    have e5 := (b5.cell h5').trans d5
    have bx5 := bx.then b5
    have n0 := bx5.cell 0
    have n1 := bx5.cell 1
    have hb5 := below_then hb hb.size b5
    clear d4 d5 bx
    go_wp2_with fail
    refine (hq.out _ hb5).mono ?_
    rintro e w6 ⟨rfl, b6⟩
    go_wp2_with fail
    go_ret
    exact ⟨rfl, below_then hb5 hb5.size b6⟩

/-- Where the rounds stand in memory. -/
structure StC (W w : World) (A : Option Addr) (n c : Nat) (cv : Value) (nm : Nat) (D : DataW Unit) : Prop where
  own : Box w W.heap.size 33 #[.slice A n c]
  map : OwnsP w (W.heap.size + 1) nm D
  mv : Box w (W.heap.size + 2) 66 #[.map (some (W.heap.size + 1))]
  kn : Box w (W.heap.size + 3) 86 #[.func (.func 56) #[] #[.pointer (some ⟨W.heap.size + 2, 0, none⟩)]]
  cg : Box w (W.heap.size + 4) 87 #[cv]
  below : Below W.heap.size W w
section
variable {W w w' : World} {A : Option Addr} {n c : Nat} {cv : Value} {nm : Nat} {D : DataW Unit}
theorem StC.alloc (h : StC W w A n c cv nm D) (ob : Obj) : StC W (w.alloc ob) A n c cv nm D := ⟨h.own.alloc ob, h.map.alloc ob, h.mv.alloc ob, h.kn.alloc ob, h.cg.alloc ob, h.below.alloc h.below.size ob⟩
theorem StC.then (h : StC W w A n c cv nm D) (hb : Below w.heap.size w w') : StC W w' A n c cv nm D :=
  ⟨h.own.then hb, h.map.kept (row := none) ⟨hb.os, hb.tape, hb.output, hb.size, fun k hk _ => hb.block k hk⟩ (by simp), h.mv.then hb, h.kn.then hb, h.cg.then hb, below_then h.below h.below.size hb⟩
theorem StC.mapped {nm' : Nat} {D' : DataW Unit} (h : StC W w A n c cv nm D) (hg : w.grownBy w' (some (W.heap.size + 1))) (h' : OwnsP w' (W.heap.size + 1) nm' D') : StC W w' A n c cv nm' D' :=
  ⟨h.own.grown hg (fun e => by injection e with e; omega), h', h.mv.grown hg (fun e => by injection e with e; omega), h.kn.grown hg (fun e => by injection e with e; omega), h.cg.grown hg (fun e => by injection e with e; omega),
    h.below.grown hg h.below.size (fun z e => by injection e with e; omega)⟩
theorem grown_setC (w : World) (p : Addr) (u : Value) : w.grownBy (w.setCell p u) (some p.block) := ⟨rfl, rfl, rfl, by simp, fun i _ hne => Below.heap_setCell w p u i (fun e => hne (by rw [e]))⟩
theorem StC.caught (h : StC W w A n c cv nm D) (u : Value) : StC W (w.setCell ⟨W.heap.size + 4, 0, none⟩ u) A n c u nm D := by
  have hg := grown_setC w ⟨W.heap.size + 4, 0, none⟩ u
  simp only at hg
  exact ⟨h.own.grown hg (fun e => by injection e with e; omega), h.map.kept hg (fun e => by injection e with e; omega), h.mv.grown hg (fun e => by injection e with e; omega), h.kn.grown hg (fun e => by injection e with e; omega),
    by have := h.cg.set 0 u; simpa using this, h.below.grown hg h.below.size (fun z e => by injection e with e; omega)⟩
end
end Go.Proofs.Ytakphmcelhbaiab
