
/-
  coversOf: the ways to cover a row.
-/
import Derived.Test.YtnikgnicjbcbmabDoorPTileI
namespace Go.Proofs.YtnikgnicjbcbmabDoor
open Go.RowKit
set_option linter.unusedVariables false

set_option maxHeartbeats 1000000 in
theorem indexB_c (g : Nat) (t : TypeId) (cap c : Nat) (w : World) (hb : Box w g t (bitsF c.testBit)) (hc : c < 32) (h0 : c ≠ 0) :
    Calls Tryd.prog 42 #[.slice (some ⟨g, 0, none⟩) 5 cap, .bool true] w fun e w' => e = .returned (.int .i64 ((lowB c : Nat) : Int)) ∧ w = w' := by
  obtain ⟨l1, l2, l3, -⟩ := low_in ⟨c, hc⟩ h0
  simp only at l1 l2 l3
  have HB := hide hb
  have hat : Hid (∀ k, k < 5 → w.cell? ⟨g, k, none⟩ = some (.bool (c.testBit k))) := fun k hk => (hb.cell k).trans (bitsF_at _ hk)
  generalize lowB c = l at *
  generalize c.testBit = f at *
  clear hb
  go_enter Tryd.func42, Tryd.ntmps42
  go_wp2_with fail
  go_loopw [8] (fun i wr => ∃ k : Nat, k ≤ l ∧ i = .int .i64 (k : Int) ∧ w = wr) (fun i _ => 5 - (intOf i).toNat)
  case atStart => exact ⟨0, Nat.zero_le _, rfl, rfl⟩
  case round =>
    obtain ⟨k, hk, rfl, rfl⟩ := hrel
    have hck := hat.out k (by omega)
    have k0 : (0 : Int) ≤ (k : Int) := by omega
    have k5 : (k : Int) < 5 := by omega
    by_cases e : k = l
    · subst e
      rw [l2] at hck
      go_wp2_with fail
      go_ret
      exact ⟨rfl, rfl⟩
    · have := l3 ⟨k, by omega⟩ (by simp only; omega)
      simp only at this
      rw [this] at hck
      clear this
      go_wp2_with fail
      exact ⟨⟨k + 1, by omega, by go_num, trivial⟩, by simp [intOf]; omega⟩

/-- The cells of rows, one row after the other. -/
def flatS (L : List Nat) : List Value := L.flatMap fun t => (bitsF t.testBit).toList
theorem flatS_len (L : List Nat) : (flatS L).length = L.length * 5 := by
  induction L with
  | nil => rfl
  | cons t L ih => simp only [flatS, List.flatMap_cons, List.length_append] at ih ⊢; rw [ih]; simp [bitsF]; omega
theorem flatS_app (L M : List Nat) : flatS (L ++ M) = flatS L ++ flatS M := by simp [flatS]
theorem flatS_one (L : List Nat) : ∀ u ∈ flatS L, u.oneCell' = true := by
  intro u hu
  simp only [flatS, List.mem_flatMap] at hu
  obtain ⟨t, _, h⟩ := hu
  simp only [bitsF, List.mem_cons, List.not_mem_nil, or_false] at h
  rcases h with rfl | rfl | rfl | rfl | rfl <;> rfl
theorem flatS_at : ∀ (L : List Nat) (k q : Nat), k < L.length → q < 5 → (flatS L)[k * 5 + q]? = some (.bool ((L[k]?.getD 0).testBit q))
  | [], k, q, h, _ => absurd h (by simp)
  | t :: L, 0, q, _, hq => by
    simp only [flatS, List.flatMap_cons]
    rw [List.getElem?_append_left (by simp [bitsF]; omega), Nat.zero_mul, Nat.zero_add]
    have := bitsF_at t.testBit hq
    rw [← Array.getElem?_toList] at this
    simpa using this
  | t :: L, k + 1, q, h, hq => by
    have ih := flatS_at L k q (by simpa using h) hq
    simp only [flatS, List.flatMap_cons] at ih ⊢
    rw [List.getElem?_append_right (by simp [bitsF]; omega)]
    rw [show (k + 1) * 5 + q - (bitsF t.testBit).toList.length = k * 5 + q by simp [bitsF]; omega, ih]
    simp
theorem Row.row5 {w : World} {g : Nat} {L : List Nat} {k : Nat} (h : Row w (some ⟨g, 0, none⟩) (flatS L)) (hk : k < L.length) :
    w.cell? ⟨g, k * 5, none⟩ = some (.bool ((L[k]?.getD 0).testBit 0)) ∧ w.cell? ⟨g, k * 5 + 1, none⟩ = some (.bool ((L[k]?.getD 0).testBit 1)) ∧ w.cell? ⟨g, k * 5 + 2, none⟩ = some (.bool ((L[k]?.getD 0).testBit 2)) ∧
    w.cell? ⟨g, k * 5 + 3, none⟩ = some (.bool ((L[k]?.getD 0).testBit 3)) ∧ w.cell? ⟨g, k * 5 + 4, none⟩ = some (.bool ((L[k]?.getD 0).testBit 4)) := by
  have add : ∀ j, (⟨g, 0, none⟩ : Addr).add j = ⟨g, j, none⟩ := fun j => by unfold Addr.add; split <;> simp_all
  have one : ∀ q, q < 5 → w.cell? ⟨g, k * 5 + q, none⟩ = some (.bool ((L[k]?.getD 0).testBit q)) := fun q hq => by
    obtain ⟨l1, f1⟩ := List.getElem?_eq_some_iff.1 (flatS_at L k q hk hq)
    obtain ⟨_, ⟨rfl⟩, hc⟩ := h _ l1
    rw [add] at hc
    rw [hc, f1]
  exact ⟨one 0 (by omega), one 1 (by omega), one 2 (by omega), one 3 (by omega), one 4 (by omega)⟩
theorem eq5 (a b c d e : Bool) (w : World) : (Op.equalIn 10000 60 (.agg #[.bool a, .bool b, .bool c, .bool d, .bool e]) (.agg #[.bool false, .bool false, .bool false, .bool false, .bool false])).run Tryd.prog w = .ok (!a && !b && !c && !d && !e) w := by
  cases a <;> cases b <;> cases c <;> cases d <;> cases e <;> kernel_rfl
theorem some5 {f : Nat → Bool} {l : Nat} (hl : l < 5) (h : f l = true) : (!f 0 && !f 1 && !f 2 && !f 3 && !f 4) = false := by
  obtain rfl | rfl | rfl | rfl | rfl : l = 0 ∨ l = 1 ∨ l = 2 ∨ l = 3 ∨ l = 4 := by omega
  all_goals simp [h]
theorem own_new5 (w : World) {B g : Nat} (h : B ≤ w.heap.size) (hg : g = w.heap.size) : (w.alloc (.cells #[.bool false, .bool false, .bool false, .bool false, .bool false] 60)).ownsRow B 60 5 (.slice (some ⟨g, 0, none⟩) 1 1) 1 (flatS [0]) := hg ▸
  ⟨by simp [flatS, bitsF], .inr ⟨w.heap.size, 1, #[.bool false, .bool false, .bool false, .bool false, .bool false], rfl, h, heap_alloc_new w _, Nat.le_refl _, by simp [maxLen], rfl, by simp [flatS, bitsF]⟩⟩
theorem elem_rc : Elem Tryd.prog 60 5 5 := Elem.of (z := .agg #[.bool false, .bool false, .bool false, .bool false, .bool false]) (by kernel_rfl) rfl (by omega)
theorem grown_set5 (w : World) (p : Addr) (u : Value) : w.grownBy (w.setCell p u) (some p.block) := ⟨rfl, rfl, rfl, by simp, fun i _ hne => Below.heap_setCell w p u i (fun e => hne (by rw [e]))⟩
theorem own_down {w : World} {base base' : Nat} {e : TypeId} {size n : Nat} {v : Value} {xs : List Value} (h : w.ownsRow base e size v n xs) (hb : base' ≤ base) : w.ownsRow base' e size v n xs :=
  ⟨h.1, h.2.imp id fun ⟨g, cap, cur, e1, e2, e3⟩ => ⟨g, cap, cur, e1, Nat.le_trans hb e2, e3⟩⟩
theorem own_far {w : World} {base e size n g : Nat} {v : Value} {xs : List Value} (h : w.ownsRow base e size v n xs) (hg : g < base) : v.ownBlock ≠ some g := fun e => by
  have := (h.lt g e).1
  omega
theorem own_at0 {w : World} {base e size n : Nat} {v : Value} {cs : List Value} (h : w.ownsRow base e size v n cs) (hn : 0 < n) : ∃ g c, v = .slice (some ⟨g, 0, none⟩) n c ∧ Row w (some ⟨g, 0, none⟩) cs ∧ base ≤ g := by
  obtain ⟨A, c, rfl, _, _, hrow, hfr⟩ := own_row h
  rcases h.2 with ⟨_, rfl⟩ | ⟨g, cap, cur, e, hb, _⟩
  · omega
  · injection e with e1 e2 e3
    subst e1
    exact ⟨g, c, rfl, hrow, hb⟩

theorem way_snoc (L : List Nat) (l k : Nat) (h : k < L.length) : flatS ((L.take (k + 1)).map fun t => t ||| 2 ^ l) = flatS ((L.take k).map fun t => t ||| 2 ^ l) ++ (bitsF ((L[k]?.getD 0) ||| 2 ^ l).testBit).toList := by
  rw [List.take_add_one, List.getElem?_eq_getElem h, Option.toList_some, List.map_append, flatS_app]
  simp [flatS]
theorem way_bits (t l : Nat) : bitsF (fun i => if i = l then true else t.testBit i) = bitsF (t ||| 2 ^ l).testBit := bitsF_congr fun i _ => by
  rw [Nat.testBit_or, Nat.testBit_two_pow]
  by_cases e : i = l
  · rw [if_pos e, decide_eq_true e.symm]; simp
  · rw [if_neg e, decide_eq_false (fun h => e h.symm)]; simp
theorem way_put (x : Nat → Bool) {l : Nat} (hl : l < 5) : ∃ y : Nat → Bool, bitsF y = bitsF (fun i => if i = l then true else x i) ∧
    (∀ h : 0 < ([Value.bool (x 0), .bool (x 1), .bool (x 2), .bool (x 3), .bool (x 4)].set l (.bool true)).length, ([Value.bool (x 0), .bool (x 1), .bool (x 2), .bool (x 3), .bool (x 4)].set l (.bool true))[0]'h = .bool (y 0)) ∧
    (∀ h : 1 < ([Value.bool (x 0), .bool (x 1), .bool (x 2), .bool (x 3), .bool (x 4)].set l (.bool true)).length, ([Value.bool (x 0), .bool (x 1), .bool (x 2), .bool (x 3), .bool (x 4)].set l (.bool true))[1]'h = .bool (y 1)) ∧
    (∀ h : 2 < ([Value.bool (x 0), .bool (x 1), .bool (x 2), .bool (x 3), .bool (x 4)].set l (.bool true)).length, ([Value.bool (x 0), .bool (x 1), .bool (x 2), .bool (x 3), .bool (x 4)].set l (.bool true))[2]'h = .bool (y 2)) ∧
    (∀ h : 3 < ([Value.bool (x 0), .bool (x 1), .bool (x 2), .bool (x 3), .bool (x 4)].set l (.bool true)).length, ([Value.bool (x 0), .bool (x 1), .bool (x 2), .bool (x 3), .bool (x 4)].set l (.bool true))[3]'h = .bool (y 3)) ∧
    (∀ h : 4 < ([Value.bool (x 0), .bool (x 1), .bool (x 2), .bool (x 3), .bool (x 4)].set l (.bool true)).length, ([Value.bool (x 0), .bool (x 1), .bool (x 2), .bool (x 3), .bool (x 4)].set l (.bool true))[4]'h = .bool (y 4)) := by
  refine ⟨fun i => if i = l then true else x i, rfl, ?_⟩
  obtain rfl | rfl | rfl | rfl | rfl : l = 0 ∨ l = 1 ∨ l = 2 ∨ l = 3 ∨ l = 4 := by omega
  all_goals exact ⟨fun _ => rfl, fun _ => rfl, fun _ => rfl, fun _ => rfl, fun _ => rfl⟩
set_option maxHeartbeats 600000 in
set_option maxRecDepth 100000 in
theorem coversOf_f (b : Nat) (hb32 : b < 32) (fb : Nat → Bool) (hfb : fb = b.testBit) : ∀ c, c < 32 → ∀ (f : Nat → Bool), f = c.testBit → ∀ W : World, Calls Tryd.prog 33 #[.agg (bitsF f), .agg (bitsF fb)] W (Owns 60 5 (waysP 6 c b).length (flatS (waysP 6 c b)) W) := by
  intro c
  induction c using Nat.strongRecOn with
  | ind c ih =>
  intro hc f hf W
  have bc0 := (Box.new W 60 (bitsF f)).alloc (.cells (bitsF fb) 60)
  have bb0 := Box.new (W.alloc (.cells (bitsF f) 60)) 60 (bitsF fb)
  simp only [World.size_alloc] at bb0
  have hb0 : Below W.heap.size W ((W.alloc (.cells (bitsF f) 60)).alloc (.cells (bitsF fb) 60)) := ((Below.refl _ _).alloc (Nat.le_refl _) _).alloc (by simp) _
  obtain ⟨d0, d1, d2, d3, d4⟩ := box5 bc0
  by_cases h0 : c = 0
  · subst h0
    rw [ways_zero]
    have hf0 : ∀ k, f k = false := fun k => by rw [hf, Nat.zero_testBit]
    rw [hf0] at d0 d1 d2 d3 d4
    have he := hide (fun w5 => eq5 false false false false false w5)
    have he2 := fun w5 => (he.out w5).trans (by rfl : _ = Result.ok true w5)
    clear he bc0 bb0 hf hf0 ih hfb
    have B0 := hide (hb0.alloc hb0.size (.cells #[.bool false, .bool false, .bool false, .bool false, .bool false] 60))
    have hz := by have := hb0.size; simpa using this
    go_enter Tryd.func33, Tryd.ntmps33
    go_wp2_with fail
    go_ret
    exact ⟨_, rfl, own_new5 _ (by simpa using hz) (by simp), B0.out⟩
  · obtain ⟨l1, l2, l3, l4, l5⟩ := low_in ⟨c, hc⟩ h0
    simp only at l1 l2 l4 l5
    clear l3
    have HIX := hide (fun (g : Nat) (w5 : World) (h5 : Box w5 g 60 (bitsF f)) => by
      rw [hf] at h5
      exact indexB_c g 60 5 c w5 h5 hc h0)
    have hW := ways_step ⟨c, hc⟩ ⟨b, hb32⟩ h0
    simp only at hW
    obtain ⟨f1, hf1⟩ : ∃ f1, f1 = (dif c (2 ^ lowB c)).testBit := ⟨_, rfl⟩
    obtain ⟨f2, hf2⟩ : ∃ f2, f2 = (dif (dif c (2 ^ lowB c)) (2 ^ (lowB c + 1))).testBit := ⟨_, rfl⟩
    have HIH1 := hide (fun (W5 : World) => show Calls Tryd.prog 33 #[.agg #[.bool (f1 0), .bool (f1 1), .bool (f1 2), .bool (f1 3), .bool (f1 4)], .agg #[.bool (fb 0), .bool (fb 1), .bool (fb 2), .bool (fb 3), .bool (fb 4)]] W5 (Owns 60 5 (waysP 6 (dif c (2 ^ lowB c)) b).length (flatS (waysP 6 (dif c (2 ^ lowB c)) b)) W5) from ih (dif c (2 ^ lowB c)) l4 (by omega) f1 hf1 W5)
    have HIH2 := hide (fun (W5 : World) => show Calls Tryd.prog 33 #[.agg #[.bool (f2 0), .bool (f2 1), .bool (f2 2), .bool (f2 3), .bool (f2 4)], .agg #[.bool (fb 0), .bool (fb 1), .bool (fb 2), .bool (fb 3), .bool (fb 4)]] W5 (Owns 60 5 (waysP 6 (dif (dif c (2 ^ lowB c)) (2 ^ (lowB c + 1))) b).length (flatS (waysP 6 (dif (dif c (2 ^ lowB c)) (2 ^ (lowB c + 1))) b)) W5) from ih (dif (dif c (2 ^ lowB c)) (2 ^ (lowB c + 1))) l5 (by omega) f2 hf2 W5)
    have hc1 : Hid (bitsF (fun i => if i = lowB c then false else f i) = bitsF f1) := bitsF_congr fun i _ => by
      rw [hf1, hf, dif_bit, Nat.testBit_two_pow]
      by_cases e : i = lowB c
      · rw [if_pos e, e, decide_eq_true rfl]; simp
      · rw [if_neg e, decide_eq_false (fun h => e h.symm)]; simp
    have hc2 : Hid (bitsF (fun i => if i = lowB c + 1 then false else f1 i) = bitsF f2) := bitsF_congr fun i _ => by
      rw [hf2, hf1, dif_bit _ (2 ^ (lowB c + 1)), Nat.testBit_two_pow]
      by_cases e : i = lowB c + 1
      · rw [if_pos e, e, decide_eq_true rfl]; simp
      · rw [if_neg e, decide_eq_false (fun h => e h.symm)]; simp
    have hL1 := (ways_in ⟨dif c (2 ^ lowB c), by omega⟩ ⟨b, hb32⟩).1
    have hL2 := (ways_in ⟨dif (dif c (2 ^ lowB c)) (2 ^ (lowB c + 1)), by omega⟩ ⟨b, hb32⟩).1
    simp only at hL1 hL2
    rw [← hf1, ← hfb] at hW
    rw [← hf] at l2
    generalize hl : lowB c = l at *
    generalize dif c (2 ^ l) = q1 at *
    generalize dif q1 (2 ^ (l + 1)) = q2 at *
    have he2 := fun w5 => (eq5 (f 0) (f 1) (f 2) (f 3) (f 4) w5).trans (by rw [some5 l1 l2] : _ = Result.ok false w5)
    have l0i : (0 : Int) ≤ (l : Int) := by omega
    have l5i : (l : Int) < 5 := by omega
    have HW := hide hW
    have HBC := hide bc0
    have HBB := hide bb0
    have HB0 := hide hb0
    clear hW ih l4 l5 hl bc0 bb0 hb0 hf hf1 hf2 hfb
    generalize waysP 6 q1 b = L1 at *
    generalize waysP 6 q2 b = L2 at *
    generalize waysP 6 c b = L at *
    cases hby : fb l with
    | true =>
      go_enter Tryd.func33, Tryd.ntmps33
      go_wp2_with fail
      refine (HIX.out _ _ HBC.out).mono ?_
      rintro e w2 ⟨rfl, hw2⟩
      have bc := HBC.out
      have bb := HBB.out
      have hb := HB0.out
      rw [hw2] at bc bb hb
      clear hw2 HBC HBB HB0 d0 d1 d2 d3 d4
      obtain ⟨p1, p2, p3⟩ := box5_set bc l1 false
      rw [hc1.out] at p3
      have bb1 := bb.other (p := ⟨W.heap.size, l, none⟩) (by simp) (.bool false)
      have hb1 := hb.setCell (p := ⟨W.heap.size, l, none⟩) (Nat.le_refl _) (.bool false)
      have hbl := (bb1.cell l).trans (bitsF_at _ l1)
      rw [hby] at hbl
      obtain ⟨e0, e1, e2, e3, e4⟩ := box5 p3
      obtain ⟨g0, g1, g2, g3, g4⟩ := box5 bb1
      go_wp2_with fail
      refine (HIH1.out _).mono ?_
      rintro e w3 ⟨v3, rfl, o3, b3⟩
      have p3 := p3.then b3
      have bb3 := bb1.then b3
      have hb3 := below_then hb1 hb1.size b3
      clear bc bb hb p1 p2 bb1 hb1 hbl e0 e1 e2 e3 e4 g0 g1 g2 g3 g4
      obtain ⟨A3, c3, rfl, _, _, r3, hf3⟩ := own_row o3
      have r3 := hide r3
      go_wp2_with fail
      go_loopw [6, 25] (fun v i wr => ∃ k : Nat, k ≤ L1.length ∧ i = .int .i64 (k : Int) ∧ wr.ownsRow w3.heap.size 60 5 v k (flatS ((L1.take k).map fun t => t ||| 2 ^ l)) ∧ Below w3.heap.size w3 wr) (fun _ i _ => L1.length - (intOf i).toNat)
      case atStart => exact ⟨0, Nat.zero_le _, rfl, World.ownsRow_nil _ _ _ _, Below.refl _ _⟩
      case round =>
        obtain ⟨k, hk, rfl, own, hb⟩ := hrel
        obtain ⟨wo, rfl⟩ : ∃ wo : World, wo = wr := ⟨_, rfl⟩
        have z := hb.size
        by_cases hlt : k < L1.length
        · have hr := r3.out.below hb
          obtain ⟨ad, rfl, _⟩ := hr 0 (by have := flatS_len L1; omega)
          obtain ⟨g, rfl, hg1, hg2, _⟩ := hf3 _ rfl
          obtain ⟨x0, x1, x2, x3, x4⟩ := Row.row5 hr hlt
          have hsn := hide (way_snoc L1 l k hlt)
          obtain ⟨x, hx⟩ : ∃ x, x = (L1[k]?.getD 0).testBit := ⟨_, rfl⟩
          rw [← hx] at x0 x1 x2 x3 x4
          obtain ⟨y, hy, y0, y1, y2, y3, y4⟩ := way_put x l1
          have hxl : (#[Value.bool (x 0), .bool (x 1), .bool (x 2), .bool (x 3), .bool (x 4)])[l]? = some (.bool (x l)) := bitsF_at x l1
          have HX : Hid (bitsF y = bitsF ((L1[k]?.getD 0) ||| 2 ^ l).testBit) := hy.trans (by rw [hx]; exact way_bits _ l)
          have k0 : (0 : Int) ≤ (k : Int) := by omega
          have k1 : (k : Int) < (L1.length : Int) := by omega
          clear hx hy hr
          go_wp2_with ((at_builtin; refine put_own rfl (.tmp 31) (.tmp 33) rfl Tryd.underlying63 elem_rc rfl ((own.alloc _).alloc _) rfl (m := 1) (news := [.bool (y 0), .bool (y 1), .bool (y 2), .bool (y 3), .bool (y 4)]) rfl (row_new _ _ _ (by simp)) (by simp [Value.oneCell']) (by omega) (by omega) (by simp; omega) ?_; intro v9 w9 own9 hg9 ho9))
          refine ⟨⟨k + 1, hlt, by go_num, ?_, ?_⟩, by simp [intOf]; omega⟩
          · rw [hsn.out, ← HX.out]
            exact own9
          · exact below_grown ((hb.alloc z _).alloc (by simp; omega) _) (by simp; omega) ((own.alloc _).alloc _) (Nat.le_refl _) hg9
        · obtain rfl : k = L1.length := by omega
          rw [List.take_length] at own
          have pT := p3.then hb
          have bT := bb3.then hb
          have hbT := below_then hb3 hb3.size hb
          have zz := bb3.in_
          clear p3 bb3 hb3 b3 o3 r3 hf3 HIH1
          have zT := own.lt
          by_cases hc5 : l + 1 < 5
          · have l6i : IntKind.i64.wrap ((l : Int) + 1) = ((l + 1 : Nat) : Int) := (IntWalk.i64_in _ (by omega)).trans (by omega)
            have l7i : ((l + 1 : Nat) : Int) < 5 := by omega
            have l8i : (0 : Int) ≤ ((l + 1 : Nat) : Int) := by omega
            have l9i : (l : Int) + 1 = ((l + 1 : Nat) : Int) := by omega
            have l9h := hide l9i
            have l7' : (l : Int) + 1 < 5 := by omega
            have l8' : (0 : Int) ≤ (l : Int) + 1 := by omega
            clear l9i
            obtain ⟨s1, s2, s3⟩ := box5_set pT hc5 false
            rw [hc2.out] at s3
            cases hb2 : f1 (l + 1) with
            | true =>
              have HL : Hid (L = (L1.map fun t => t ||| 2 ^ l) ++ L2) := HW.out.trans (by rw [hby, decide_eq_true hc5, hb2]; rfl)
              rw [hb2] at s1
              have bT' := bT.other (p := ⟨W.heap.size, l + 1, none⟩) (by simp) (.bool false)
              have hT' := hbT.setCell (p := ⟨W.heap.size, l + 1, none⟩) (Nat.le_refl _) (.bool false)
              have own' := own.kept (grown_set5 wo ⟨W.heap.size, l + 1, none⟩ (.bool false)) (.inr (own_far own (by simp; omega)))
              obtain ⟨e0, e1, e2, e3, e4⟩ := box5 s3
              obtain ⟨g0, g1, g2, g3, g4⟩ := box5 bT'
              obtain ⟨u0, u1, u2, u3, u4⟩ := box5 pT
              go_wp2_with fail
              refine (HIH2.out _).mono ?_
              rintro e w7 ⟨v7, rfl, o7, b7⟩
              obtain ⟨A7, c7, rfl, _, _, r7, hf7⟩ := own_row o7
              have own7 := own_below own' b7
              have hT7 := below_then hT' hT'.size b7
              have z7 := b7.size
              clear own' hT' bT' s1 s2 s3 e0 e1 e2 e3 e4 g0 g1 g2 g3 g4 u0 u1 u2 u3 u4 o7
              go_wp2_with ((at_builtin; refine put_own rfl (.tmp 48) (.tmp 51) rfl Tryd.underlying63 elem_rc rfl own7 rfl (m := L2.length) (news := flatS L2) (by rw [flatS_len]) r7 (flatS_one _) (by omega) (by omega) (by simp at z7; omega) ?_; intro v9 w9 own9 hg9 ho9))
              go_ret
              refine ⟨_, rfl, ?_, below_grown hT7 hT7.size own7 (by omega) hg9⟩
              rw [HL.out, flatS_app, List.length_append, List.length_map]
              exact own_down own9 (by omega)
            | false =>
              have HL : Hid (L = (L1.map fun t => t ||| 2 ^ l)) := HW.out.trans (by rw [hby, decide_eq_true hc5, hb2]; simp)
              rw [hb2] at s1
              go_wp2_with fail
              go_ret
              refine ⟨_, rfl, ?_, hbT⟩
              rw [HL.out, List.length_map]
              exact own_down own (by omega)
          · have HL : Hid (L = (L1.map fun t => t ||| 2 ^ l)) := HW.out.trans (by rw [hby, decide_eq_false hc5]; simp)
            have l7' : ¬ (l : Int) + 1 < 5 := by omega
            go_wp2_with fail
            go_ret
            refine ⟨_, rfl, ?_, hbT⟩
            rw [HL.out, List.length_map]
            exact own_down own (by omega)
    | false =>
      go_enter Tryd.func33, Tryd.ntmps33
      go_wp2_with fail
      refine (HIX.out _ _ HBC.out).mono ?_
      rintro e w2 ⟨rfl, hw2⟩
      have bc := HBC.out
      have bb := HBB.out
      have hb := HB0.out
      rw [hw2] at bc bb hb
      clear hw2 HBC HBB HB0 d0 d1 d2 d3 d4
      obtain ⟨p1, p2, pT⟩ := box5_set bc l1 false
      rw [hc1.out] at pT
      have bT := bb.other (p := ⟨W.heap.size, l, none⟩) (by simp) (.bool false)
      have hbT := hb.setCell (p := ⟨W.heap.size, l, none⟩) (Nat.le_refl _) (.bool false)
      have hbl := (bT.cell l).trans (bitsF_at _ l1)
      rw [hby] at hbl
      have zz : W.heap.size + 1 < w2.heap.size := by simpa using bT.in_
      have own : (w2.setCell ⟨W.heap.size, l, none⟩ (.bool false)).ownsRow (W.heap.size + 1 + 1) 60 5 (.slice none 0 0) 0 (flatS []) := World.ownsRow_nil _ _ _ _
      have L00 : (0 : Nat) ≤ 8 := by omega
      obtain ⟨v0, v1, v2, v3, v4⟩ := box5 pT
      have zT := own.lt
      by_cases hc5 : l + 1 < 5
      · have l6i : IntKind.i64.wrap ((l : Int) + 1) = ((l + 1 : Nat) : Int) := (IntWalk.i64_in _ (by omega)).trans (by omega)
        have l7i : ((l + 1 : Nat) : Int) < 5 := by omega
        have l8i : (0 : Int) ≤ ((l + 1 : Nat) : Int) := by omega
        have l9i : (l : Int) + 1 = ((l + 1 : Nat) : Int) := by omega
        have l9h := hide l9i
        have l7' : (l : Int) + 1 < 5 := by omega
        have l8' : (0 : Int) ≤ (l : Int) + 1 := by omega
        clear l9i
        obtain ⟨s1, s2, s3⟩ := box5_set pT hc5 false
        rw [hc2.out] at s3
        cases hb2 : f1 (l + 1) with
        | true =>
          have HL : Hid (L = [] ++ L2) := HW.out.trans (by rw [hby, decide_eq_true hc5, hb2]; rfl)
          rw [hb2] at s1
          have bT' := bT.other (p := ⟨W.heap.size, l + 1, none⟩) (by simp) (.bool false)
          have hT' := hbT.setCell (p := ⟨W.heap.size, l + 1, none⟩) (Nat.le_refl _) (.bool false)
          have own' := own.kept (grown_set5 (w2.setCell ⟨W.heap.size, l, none⟩ (.bool false)) ⟨W.heap.size, l + 1, none⟩ (.bool false)) (.inr (own_far own (by simp; omega)))
          obtain ⟨e0, e1, e2, e3, e4⟩ := box5 s3
          obtain ⟨g0, g1, g2, g3, g4⟩ := box5 bT'
          obtain ⟨u0, u1, u2, u3, u4⟩ := box5 pT
          go_wp2_with fail
          refine (HIH2.out _).mono ?_
          rintro e w7 ⟨v7, rfl, o7, b7⟩
          obtain ⟨A7, c7, rfl, _, _, r7, hf7⟩ := own_row o7
          have own7 := own_below own' b7
          have hT7 := below_then hT' hT'.size b7
          have z7 := b7.size
          clear own' hT' bT' s1 s2 s3 e0 e1 e2 e3 e4 g0 g1 g2 g3 g4 u0 u1 u2 u3 u4 o7
          go_wp2_with ((at_builtin; refine put_own rfl (.tmp 48) (.tmp 51) rfl Tryd.underlying63 elem_rc rfl own7 rfl (m := L2.length) (news := flatS L2) (by rw [flatS_len]) r7 (flatS_one _) (by omega) (by omega) (by simp at z7; omega) ?_; intro v9 w9 own9 hg9 ho9))
          go_ret
          refine ⟨_, rfl, ?_, below_grown hT7 hT7.size own7 (by omega) hg9⟩
          rw [HL.out, List.nil_append]
          exact own_down (by simpa [flatS] using own9) (show W.heap.size ≤ W.heap.size + 1 + 1 by omega)
        | false =>
          have HL : Hid (L = []) := HW.out.trans (by rw [hby, decide_eq_true hc5, hb2]; simp)
          rw [hb2] at s1
          go_wp2_with fail
          go_ret
          refine ⟨_, rfl, ?_, hbT⟩
          rw [HL.out]
          exact own_down own (by omega)
      · have HL : Hid (L = []) := HW.out.trans (by rw [hby, decide_eq_false hc5]; simp)
        have l7' : ¬ (l : Int) + 1 < 5 := by omega
        go_wp2_with fail
        go_ret
        refine ⟨_, rfl, ?_, hbT⟩
        rw [HL.out]
        exact own_down own (by omega)
end Go.Proofs.YtnikgnicjbcbmabDoor
