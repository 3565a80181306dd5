/-
  SpecA, SeatA, SpecB, SpecC, LawWords, OwnWords, SpecD in one text.
-/
import Derived.Test.YtmfdlijkpdgimaaGreatDoorPureM
import Derived.Test.YtmfdlijkpdgimaaGreatDoorProg
import Derived.RegionTactic
import Derived.Deep.QuietTactic
import Derived.BigQuiet
import Derived.ProofKit
import Derived.Handy
import Derived.Deep.DeepCutAuto
import Derived.Deep.RegionHeld3
import Derived.Deep.LoopGhost
import Derived.Deep.CutRange
import Derived.Deep.AppendLies
import Derived.Test.YtmfdlijkpdgimaaGreatDoorBase
import Derived.OwnWalk
/-
  The reference model's small words: inRange, validBoard, hasInt, steps, validKind.
-/
namespace Go.Proofs.YtmfdlijkpdgimaaGreatDoor
open Go.RowKit
set_option linter.unusedVariables false

theorem inRange_c (n lo hi : Int) (w : World) : Calls Tryz.prog 28 #[.int .i64 n, .int .i64 lo, .int .i64 hi] w fun e w' => e = .returned (.bool (decide (lo ≤ n ∧ n ≤ hi))) ∧ w' = w := by
  by_cases h1 : lo ≤ n
  · by_cases h2 : n ≤ hi
    · go_enter Tryz.func28, Tryz.ntmps28
      go_wp2
      go_ret
      exact ⟨ret_bool (by simp; omega), rfl⟩
    · go_enter Tryz.func28, Tryz.ntmps28
      go_wp2
      go_ret
      exact ⟨ret_bool (by simp; omega), rfl⟩
  · go_enter Tryz.func28, Tryz.ntmps28
    go_wp2
    go_ret
    exact ⟨ret_bool (by simp; omega), rfl⟩
theorem inRange_yes (n lo hi : Int) (w : World) (h1 : lo ≤ n) (h2 : n ≤ hi) : Calls Tryz.prog 28 #[.int .i64 n, .int .i64 lo, .int .i64 hi] w fun e w' => e = .returned (.bool true) ∧ w = w' :=
  (inRange_c n lo hi w).mono fun e w' ⟨he, hw⟩ => ⟨by rw [he, decide_eq_true ⟨h1, h2⟩], hw.symm⟩
theorem inRange_no (n lo hi : Int) (w : World) (h : ¬ (lo ≤ n ∧ n ≤ hi)) : Calls Tryz.prog 28 #[.int .i64 n, .int .i64 lo, .int .i64 hi] w fun e w' => e = .returned (.bool false) ∧ w = w' :=
  (inRange_c n lo hi w).mono fun e w' ⟨he, hw⟩ => ⟨by rw [he, decide_eq_false h], hw.symm⟩
theorem validBoard_yes (bc br : Int) (w : World) (h : Brd bc br) : Calls Tryz.prog 27 #[.int .i64 bc, .int .i64 br] w fun e w' => e = .returned (.bool true) ∧ w = w' := by
  obtain ⟨h1, h2, h3, h4⟩ := h
  go_enter Tryz.func27, Tryz.ntmps27
  go_wp2_with fail
  refine (inRange_yes bc 1 5 _ h1 h2).mono ?_
  rintro e w' ⟨rfl, rfl⟩
  go_wp2_with fail
  refine (inRange_yes br 1 5 _ h3 h4).mono ?_
  rintro e w' ⟨rfl, rfl⟩
  go_wp2_with fail
  go_ret
  exact ⟨rfl, rfl⟩
theorem validBoard_no (bc br : Int) (w : World) (h : ¬ Brd bc br) : Calls Tryz.prog 27 #[.int .i64 bc, .int .i64 br] w fun e w' => e = .returned (.bool false) ∧ w = w' := by
  unfold Brd at h
  by_cases h1 : 1 ≤ bc ∧ bc ≤ 5
  · have h2 : ¬ (1 ≤ br ∧ br ≤ 5) := by omega
    obtain ⟨h1, h1'⟩ := h1
    go_enter Tryz.func27, Tryz.ntmps27
    go_wp2_with fail
    refine (inRange_yes bc 1 5 _ h1 h1').mono ?_
    rintro e w' ⟨rfl, rfl⟩
    go_wp2_with fail
    refine (inRange_no br 1 5 _ h2).mono ?_
    rintro e w' ⟨rfl, rfl⟩
    go_wp2_with fail
    go_ret
    exact ⟨rfl, rfl⟩
  · clear h
    go_enter Tryz.func27, Tryz.ntmps27
    go_wp2_with fail
    refine (inRange_no bc 1 5 _ h1).mono ?_
    rintro e w' ⟨rfl, rfl⟩
    go_wp2_with fail
    go_ret
    exact ⟨rfl, rfl⟩

theorem mem_step {l : List Int} {k : Nat} {x : Int} (hk : k < l.length) (h : (l.take k).contains x = false) (hx : (l[k]?.getD 0 == x) = false) : (l.take (k + 1)).contains x = false := by
  rw [take_snoc l k hk, List.contains_eq_mem, decide_eq_false_iff_not, List.mem_append]
  rw [List.contains_eq_mem, decide_eq_false_iff_not] at h
  rintro (h' | h')
  · exact h h'
  · simp only [List.mem_singleton] at h'
    subst h'
    simp at hx
theorem mem_hit {l : List Int} {k : Nat} {x : Int} (hk : k < l.length) (hx : (l[k]?.getD 0 == x) = true) : l.contains x = true := by
  simp only [beq_iff_eq, List.getElem?_eq_getElem hk, Option.getD_some] at hx
  rw [List.contains_iff_mem, ← hx]
  exact List.getElem_mem hk

set_option maxHeartbeats 400000 in
theorem hasInt_c (A : Option Addr) (l : List Int) (c : Nat) (x : Int) (w : World) (hr : Row w A (ints l)) (hm : l.length ≤ maxLen) :
    Calls Tryz.prog 47 #[.slice A l.length c, .int .i64 x] w (Plain (.bool (decide (x ∈ l))) w) := by
  unfold maxLen at hm
  go_enter Tryz.func47, Tryz.ntmps47
  go_wp2
  go_loop [5] (fun i => ∃ k : Nat, k ≤ l.length ∧ i = .int .i64 k ∧ Hid ((l.take k).contains x = false)) (fun i => l.length - (intOf i).toNat)
  case atStart => exact ⟨0, Nat.zero_le _, rfl, rfl⟩
  case round =>
    obtain ⟨k, hk, rfl, he⟩ := hrel
    by_cases hlt : k < l.length
    · obtain ⟨ad, rfl, hca⟩ := hr.int hlt
      obtain ⟨y, hy⟩ : ∃ y, l[k]?.getD 0 = y := ⟨_, rfl⟩
      rw [hy] at hca
      have Y := hide hy
      clear hy
      cases hb : (y == x) with
      | true =>
        go_wp2
        go_ret
        exact ⟨ret_bool (by rw [← List.contains_eq_mem]; exact (mem_hit hlt (by rw [Y.out]; exact hb)).symm), Below.refl _ _⟩
      | false =>
        go_wp2
        exact ⟨⟨k + 1, hlt, rfl, mem_step hlt he.out (by rw [Y.out]; exact hb)⟩, by simp [intOf]; omega⟩
    · have hk2 : Hid (k = l.length) := hide (by omega)
      go_wp2
      go_ret
      exact ⟨ret_bool (by have e := he.out; rw [hk2.out, List.take_of_length_le (Nat.le_refl _)] at e; rw [← List.contains_eq_mem]; exact e.symm), Below.refl _ _⟩
/-- The model's steps: rows of two numbers, in the blocks gs. -/
def Inner (w : World) : List Nat → List (Int × Int) → Prop
  | [], [] => True
  | g :: gs, p :: ss => (w.cell? ⟨g, 0, none⟩ = some (.int .i64 p.1) ∧ w.cell? ⟨g, 1, none⟩ = some (.int .i64 p.2)) ∧ Inner w gs ss
  | _, _ => False
def rowsOf (gs : List Nat) : List Value := gs.map fun g => .slice (some ⟨g, 0, none⟩) 2 2
def StepRows (w : World) (gg : Nat) (ss : List (Int × Int)) : Prop := ∃ gs, Inner w gs ss ∧ Row w (some ⟨gg, 0, none⟩) (rowsOf gs)
theorem Inner.then {w w' : World} {gs : List Nat} {ss : List (Int × Int)} (h : Inner w gs ss) (hb : Below w.heap.size w w') : Inner w' gs ss := by
  induction gs generalizing ss with
  | nil =>
    cases ss with
    | nil => trivial
    | cons => exact absurd h (by simp [Inner])
  | cons g gs ih =>
    cases ss with
    | nil => exact h
    | cons p ss =>
      obtain ⟨⟨a, b⟩, c⟩ := h
      exact ⟨⟨(hb.cell (World.block_lt_of_cell? _ _ a)).trans a, (hb.cell (World.block_lt_of_cell? _ _ b)).trans b⟩, ih c⟩
theorem Inner.append {w : World} {gs gs' : List Nat} {ss ss' : List (Int × Int)} (h : Inner w gs ss) (h' : Inner w gs' ss') : Inner w (gs ++ gs') (ss ++ ss') := by
  induction gs generalizing ss with
  | nil => cases ss with | nil => exact h' | cons => exact absurd h (by simp [Inner])
  | cons g gs ih =>
    cases ss with
    | nil => exact absurd h (by simp [Inner])
    | cons p ss => exact ⟨h.1, ih h.2⟩
theorem Inner.length {w : World} {gs : List Nat} {ss : List (Int × Int)} (h : Inner w gs ss) : gs.length = ss.length := by
  induction gs generalizing ss with
  | nil => cases ss with | nil => rfl | cons => exact absurd h (by simp [Inner])
  | cons g gs ih =>
    cases ss with
    | nil => exact absurd h (by simp [Inner])
    | cons p ss => simp [ih h.2]
theorem Inner.at_ {w : World} {gs : List Nat} {ss : List (Int × Int)} (h : Inner w gs ss) {i : Nat} (hi : i < ss.length) (hg : i < gs.length) : w.cell? ⟨gs[i], 0, none⟩ = some (.int .i64 ss[i].1) ∧ w.cell? ⟨gs[i], 1, none⟩ = some (.int .i64 ss[i].2) := by
  induction gs generalizing ss i with
  | nil => simp at hg
  | cons g gs ih =>
    cases ss with
    | nil => simp at hi
    | cons p ss =>
      cases i with
      | zero => exact h.1
      | succ i => exact ih h.2 (by simpa using hi) (by simpa using hg)
theorem one_rows (gs : List Nat) : ∀ u ∈ rowsOf gs, u.oneCell' = true := by
  intro u hu
  simp only [rowsOf, List.mem_map] at hu
  obtain ⟨g, _, rfl⟩ := hu
  rfl
theorem StepRows.then {w w' : World} {gg : Nat} {ss : List (Int × Int)} (h : StepRows w gg ss) (hb : Below w.heap.size w w') : StepRows w' gg ss := by
  obtain ⟨gs, h1, h2⟩ := h
  exact ⟨gs, h1.then hb, h2.below hb⟩
theorem StepRows.at_ {w : World} {gg : Nat} {ss : List (Int × Int)} (h : StepRows w gg ss) {i : Nat} (hi : i < ss.length) :
    ∃ g, w.cell? ⟨gg, i, none⟩ = some (.slice (some ⟨g, 0, none⟩) 2 2) ∧ w.cell? ⟨g, 0, none⟩ = some (.int .i64 ss[i].1) ∧ w.cell? ⟨g, 1, none⟩ = some (.int .i64 ss[i].2) := by
  obtain ⟨gs, h1, h2⟩ := h
  have hg : i < gs.length := by rw [h1.length]; exact hi
  obtain ⟨_, ⟨rfl⟩, hc⟩ := h2 i (by simpa [rowsOf] using hg)
  rw [show (⟨gg, 0, none⟩ : Addr).add i = ⟨gg, i, none⟩ from by unfold Addr.add; split <;> simp_all] at hc
  exact ⟨gs[i], by rw [hc]; simp [rowsOf], h1.at_ hi hg⟩
def StepsEnd (s : List UInt8) (w : World) (e : Ending) (w' : World) : Prop :=
  match kindL s with
  | some (ss, far) => ∃ gg c, e = .returned (.tuple #[.slice (some ⟨gg, 0, none⟩) ss.length c, .bool far]) ∧ StepRows w' gg ss ∧ Below w.heap.size w w'
  | none => e = .returned (.tuple #[.slice none 0 0, .bool false]) ∧ Below w.heap.size w w'
theorem elem_row : Elem Tryz.prog 35 1 24 := Elem.of (z := .slice none 0 0) (by kernel_rfl) rfl (by omega)
theorem lay4 (w : World) (n : Nat) (hn : n = w.heap.size) (a0 b0 a1 b1 a2 b2 a3 b3 : Int) :
    StepRows (((((w.alloc (.cells #[.int .i64 a0, .int .i64 b0] 3)).alloc (.cells #[.int .i64 a1, .int .i64 b1] 3)).alloc (.cells #[.int .i64 a2, .int .i64 b2] 3)).alloc (.cells #[.int .i64 a3, .int .i64 b3] 3)).alloc
      (.cells #[.slice (some ⟨n, 0, none⟩) 2 2, .slice (some ⟨n + 1, 0, none⟩) 2 2, .slice (some ⟨n + 1 + 1, 0, none⟩) 2 2, .slice (some ⟨n + 1 + 1 + 1, 0, none⟩) 2 2] 35)) (n + 1 + 1 + 1 + 1) [(a0, b0), (a1, b1), (a2, b2), (a3, b3)] := by
  subst hn
  have b0' := ((((Box.new w 3 #[.int .i64 a0, .int .i64 b0]).alloc (.cells #[.int .i64 a1, .int .i64 b1] 3)).alloc (.cells #[.int .i64 a2, .int .i64 b2] 3)).alloc (.cells #[.int .i64 a3, .int .i64 b3] 3)).alloc (.cells #[.slice (some ⟨w.heap.size, 0, none⟩) 2 2, .slice (some ⟨w.heap.size + 1, 0, none⟩) 2 2, .slice (some ⟨w.heap.size + 1 + 1, 0, none⟩) 2 2, .slice (some ⟨w.heap.size + 1 + 1 + 1, 0, none⟩) 2 2] 35)
  have b1' := (((Box.new (w.alloc (.cells #[.int .i64 a0, .int .i64 b0] 3)) 3 #[.int .i64 a1, .int .i64 b1]).alloc (.cells #[.int .i64 a2, .int .i64 b2] 3)).alloc (.cells #[.int .i64 a3, .int .i64 b3] 3)).alloc (.cells #[.slice (some ⟨w.heap.size, 0, none⟩) 2 2, .slice (some ⟨w.heap.size + 1, 0, none⟩) 2 2, .slice (some ⟨w.heap.size + 1 + 1, 0, none⟩) 2 2, .slice (some ⟨w.heap.size + 1 + 1 + 1, 0, none⟩) 2 2] 35)
  have b2' := ((Box.new ((w.alloc (.cells #[.int .i64 a0, .int .i64 b0] 3)).alloc (.cells #[.int .i64 a1, .int .i64 b1] 3)) 3 #[.int .i64 a2, .int .i64 b2]).alloc (.cells #[.int .i64 a3, .int .i64 b3] 3)).alloc (.cells #[.slice (some ⟨w.heap.size, 0, none⟩) 2 2, .slice (some ⟨w.heap.size + 1, 0, none⟩) 2 2, .slice (some ⟨w.heap.size + 1 + 1, 0, none⟩) 2 2, .slice (some ⟨w.heap.size + 1 + 1 + 1, 0, none⟩) 2 2] 35)
  have b3' := (Box.new (((w.alloc (.cells #[.int .i64 a0, .int .i64 b0] 3)).alloc (.cells #[.int .i64 a1, .int .i64 b1] 3)).alloc (.cells #[.int .i64 a2, .int .i64 b2] 3)) 3 #[.int .i64 a3, .int .i64 b3]).alloc (.cells #[.slice (some ⟨w.heap.size, 0, none⟩) 2 2, .slice (some ⟨w.heap.size + 1, 0, none⟩) 2 2, .slice (some ⟨w.heap.size + 1 + 1, 0, none⟩) 2 2, .slice (some ⟨w.heap.size + 1 + 1 + 1, 0, none⟩) 2 2] 35)
  simp only [World.size_alloc] at b1' b2' b3'
  exact ⟨[w.heap.size, w.heap.size + 1, w.heap.size + 1 + 1, w.heap.size + 1 + 1 + 1], ⟨⟨b0'.cell 0, b0'.cell 1⟩, ⟨b1'.cell 0, b1'.cell 1⟩, ⟨b2'.cell 0, b2'.cell 1⟩, ⟨b3'.cell 0, b3'.cell 1⟩, trivial⟩, row_new _ _ _ (by simp)⟩
theorem lay8 (w : World) (n : Nat) (hn : n = w.heap.size) :
    StepRows (((((((((w.alloc (.cells #[.int .i64 (-2), .int .i64 (-1)] 3)).alloc (.cells #[.int .i64 (-2), .int .i64 1] 3)).alloc (.cells #[.int .i64 (-1), .int .i64 (-2)] 3)).alloc (.cells #[.int .i64 (-1), .int .i64 2] 3)).alloc (.cells #[.int .i64 1, .int .i64 (-2)] 3)).alloc (.cells #[.int .i64 1, .int .i64 2] 3)).alloc (.cells #[.int .i64 2, .int .i64 (-1)] 3)).alloc (.cells #[.int .i64 2, .int .i64 1] 3)).alloc (.cells #[.slice (some ⟨n, 0, none⟩) 2 2, .slice (some ⟨n + 1, 0, none⟩) 2 2, .slice (some ⟨n + 1 + 1, 0, none⟩) 2 2, .slice (some ⟨n + 1 + 1 + 1, 0, none⟩) 2 2, .slice (some ⟨n + 1 + 1 + 1 + 1, 0, none⟩) 2 2, .slice (some ⟨n + 1 + 1 + 1 + 1 + 1, 0, none⟩) 2 2, .slice (some ⟨n + 1 + 1 + 1 + 1 + 1 + 1, 0, none⟩) 2 2, .slice (some ⟨n + 1 + 1 + 1 + 1 + 1 + 1 + 1, 0, none⟩) 2 2] 35)) (n + 1 + 1 + 1 + 1 + 1 + 1 + 1 + 1) knights := by
  subst hn
  have b0' := ((((((((Box.new w 3 #[.int .i64 (-2), .int .i64 (-1)]).alloc (.cells #[.int .i64 (-2), .int .i64 1] 3)).alloc (.cells #[.int .i64 (-1), .int .i64 (-2)] 3)).alloc (.cells #[.int .i64 (-1), .int .i64 2] 3)).alloc (.cells #[.int .i64 1, .int .i64 (-2)] 3)).alloc (.cells #[.int .i64 1, .int .i64 2] 3)).alloc (.cells #[.int .i64 2, .int .i64 (-1)] 3)).alloc (.cells #[.int .i64 2, .int .i64 1] 3)).alloc (.cells #[.slice (some ⟨w.heap.size, 0, none⟩) 2 2, .slice (some ⟨w.heap.size + 1, 0, none⟩) 2 2, .slice (some ⟨w.heap.size + 1 + 1, 0, none⟩) 2 2, .slice (some ⟨w.heap.size + 1 + 1 + 1, 0, none⟩) 2 2, .slice (some ⟨w.heap.size + 1 + 1 + 1 + 1, 0, none⟩) 2 2, .slice (some ⟨w.heap.size + 1 + 1 + 1 + 1 + 1, 0, none⟩) 2 2, .slice (some ⟨w.heap.size + 1 + 1 + 1 + 1 + 1 + 1, 0, none⟩) 2 2, .slice (some ⟨w.heap.size + 1 + 1 + 1 + 1 + 1 + 1 + 1, 0, none⟩) 2 2] 35)
  have b1' := (((((((Box.new (w.alloc (.cells #[.int .i64 (-2), .int .i64 (-1)] 3)) 3 #[.int .i64 (-2), .int .i64 1]).alloc (.cells #[.int .i64 (-1), .int .i64 (-2)] 3)).alloc (.cells #[.int .i64 (-1), .int .i64 2] 3)).alloc (.cells #[.int .i64 1, .int .i64 (-2)] 3)).alloc (.cells #[.int .i64 1, .int .i64 2] 3)).alloc (.cells #[.int .i64 2, .int .i64 (-1)] 3)).alloc (.cells #[.int .i64 2, .int .i64 1] 3)).alloc (.cells #[.slice (some ⟨w.heap.size, 0, none⟩) 2 2, .slice (some ⟨w.heap.size + 1, 0, none⟩) 2 2, .slice (some ⟨w.heap.size + 1 + 1, 0, none⟩) 2 2, .slice (some ⟨w.heap.size + 1 + 1 + 1, 0, none⟩) 2 2, .slice (some ⟨w.heap.size + 1 + 1 + 1 + 1, 0, none⟩) 2 2, .slice (some ⟨w.heap.size + 1 + 1 + 1 + 1 + 1, 0, none⟩) 2 2, .slice (some ⟨w.heap.size + 1 + 1 + 1 + 1 + 1 + 1, 0, none⟩) 2 2, .slice (some ⟨w.heap.size + 1 + 1 + 1 + 1 + 1 + 1 + 1, 0, none⟩) 2 2] 35)
  have b2' := ((((((Box.new ((w.alloc (.cells #[.int .i64 (-2), .int .i64 (-1)] 3)).alloc (.cells #[.int .i64 (-2), .int .i64 1] 3)) 3 #[.int .i64 (-1), .int .i64 (-2)]).alloc (.cells #[.int .i64 (-1), .int .i64 2] 3)).alloc (.cells #[.int .i64 1, .int .i64 (-2)] 3)).alloc (.cells #[.int .i64 1, .int .i64 2] 3)).alloc (.cells #[.int .i64 2, .int .i64 (-1)] 3)).alloc (.cells #[.int .i64 2, .int .i64 1] 3)).alloc (.cells #[.slice (some ⟨w.heap.size, 0, none⟩) 2 2, .slice (some ⟨w.heap.size + 1, 0, none⟩) 2 2, .slice (some ⟨w.heap.size + 1 + 1, 0, none⟩) 2 2, .slice (some ⟨w.heap.size + 1 + 1 + 1, 0, none⟩) 2 2, .slice (some ⟨w.heap.size + 1 + 1 + 1 + 1, 0, none⟩) 2 2, .slice (some ⟨w.heap.size + 1 + 1 + 1 + 1 + 1, 0, none⟩) 2 2, .slice (some ⟨w.heap.size + 1 + 1 + 1 + 1 + 1 + 1, 0, none⟩) 2 2, .slice (some ⟨w.heap.size + 1 + 1 + 1 + 1 + 1 + 1 + 1, 0, none⟩) 2 2] 35)
  have b3' := (((((Box.new (((w.alloc (.cells #[.int .i64 (-2), .int .i64 (-1)] 3)).alloc (.cells #[.int .i64 (-2), .int .i64 1] 3)).alloc (.cells #[.int .i64 (-1), .int .i64 (-2)] 3)) 3 #[.int .i64 (-1), .int .i64 2]).alloc (.cells #[.int .i64 1, .int .i64 (-2)] 3)).alloc (.cells #[.int .i64 1, .int .i64 2] 3)).alloc (.cells #[.int .i64 2, .int .i64 (-1)] 3)).alloc (.cells #[.int .i64 2, .int .i64 1] 3)).alloc (.cells #[.slice (some ⟨w.heap.size, 0, none⟩) 2 2, .slice (some ⟨w.heap.size + 1, 0, none⟩) 2 2, .slice (some ⟨w.heap.size + 1 + 1, 0, none⟩) 2 2, .slice (some ⟨w.heap.size + 1 + 1 + 1, 0, none⟩) 2 2, .slice (some ⟨w.heap.size + 1 + 1 + 1 + 1, 0, none⟩) 2 2, .slice (some ⟨w.heap.size + 1 + 1 + 1 + 1 + 1, 0, none⟩) 2 2, .slice (some ⟨w.heap.size + 1 + 1 + 1 + 1 + 1 + 1, 0, none⟩) 2 2, .slice (some ⟨w.heap.size + 1 + 1 + 1 + 1 + 1 + 1 + 1, 0, none⟩) 2 2] 35)
  have b4' := ((((Box.new ((((w.alloc (.cells #[.int .i64 (-2), .int .i64 (-1)] 3)).alloc (.cells #[.int .i64 (-2), .int .i64 1] 3)).alloc (.cells #[.int .i64 (-1), .int .i64 (-2)] 3)).alloc (.cells #[.int .i64 (-1), .int .i64 2] 3)) 3 #[.int .i64 1, .int .i64 (-2)]).alloc (.cells #[.int .i64 1, .int .i64 2] 3)).alloc (.cells #[.int .i64 2, .int .i64 (-1)] 3)).alloc (.cells #[.int .i64 2, .int .i64 1] 3)).alloc (.cells #[.slice (some ⟨w.heap.size, 0, none⟩) 2 2, .slice (some ⟨w.heap.size + 1, 0, none⟩) 2 2, .slice (some ⟨w.heap.size + 1 + 1, 0, none⟩) 2 2, .slice (some ⟨w.heap.size + 1 + 1 + 1, 0, none⟩) 2 2, .slice (some ⟨w.heap.size + 1 + 1 + 1 + 1, 0, none⟩) 2 2, .slice (some ⟨w.heap.size + 1 + 1 + 1 + 1 + 1, 0, none⟩) 2 2, .slice (some ⟨w.heap.size + 1 + 1 + 1 + 1 + 1 + 1, 0, none⟩) 2 2, .slice (some ⟨w.heap.size + 1 + 1 + 1 + 1 + 1 + 1 + 1, 0, none⟩) 2 2] 35)
  have b5' := (((Box.new (((((w.alloc (.cells #[.int .i64 (-2), .int .i64 (-1)] 3)).alloc (.cells #[.int .i64 (-2), .int .i64 1] 3)).alloc (.cells #[.int .i64 (-1), .int .i64 (-2)] 3)).alloc (.cells #[.int .i64 (-1), .int .i64 2] 3)).alloc (.cells #[.int .i64 1, .int .i64 (-2)] 3)) 3 #[.int .i64 1, .int .i64 2]).alloc (.cells #[.int .i64 2, .int .i64 (-1)] 3)).alloc (.cells #[.int .i64 2, .int .i64 1] 3)).alloc (.cells #[.slice (some ⟨w.heap.size, 0, none⟩) 2 2, .slice (some ⟨w.heap.size + 1, 0, none⟩) 2 2, .slice (some ⟨w.heap.size + 1 + 1, 0, none⟩) 2 2, .slice (some ⟨w.heap.size + 1 + 1 + 1, 0, none⟩) 2 2, .slice (some ⟨w.heap.size + 1 + 1 + 1 + 1, 0, none⟩) 2 2, .slice (some ⟨w.heap.size + 1 + 1 + 1 + 1 + 1, 0, none⟩) 2 2, .slice (some ⟨w.heap.size + 1 + 1 + 1 + 1 + 1 + 1, 0, none⟩) 2 2, .slice (some ⟨w.heap.size + 1 + 1 + 1 + 1 + 1 + 1 + 1, 0, none⟩) 2 2] 35)
  have b6' := ((Box.new ((((((w.alloc (.cells #[.int .i64 (-2), .int .i64 (-1)] 3)).alloc (.cells #[.int .i64 (-2), .int .i64 1] 3)).alloc (.cells #[.int .i64 (-1), .int .i64 (-2)] 3)).alloc (.cells #[.int .i64 (-1), .int .i64 2] 3)).alloc (.cells #[.int .i64 1, .int .i64 (-2)] 3)).alloc (.cells #[.int .i64 1, .int .i64 2] 3)) 3 #[.int .i64 2, .int .i64 (-1)]).alloc (.cells #[.int .i64 2, .int .i64 1] 3)).alloc (.cells #[.slice (some ⟨w.heap.size, 0, none⟩) 2 2, .slice (some ⟨w.heap.size + 1, 0, none⟩) 2 2, .slice (some ⟨w.heap.size + 1 + 1, 0, none⟩) 2 2, .slice (some ⟨w.heap.size + 1 + 1 + 1, 0, none⟩) 2 2, .slice (some ⟨w.heap.size + 1 + 1 + 1 + 1, 0, none⟩) 2 2, .slice (some ⟨w.heap.size + 1 + 1 + 1 + 1 + 1, 0, none⟩) 2 2, .slice (some ⟨w.heap.size + 1 + 1 + 1 + 1 + 1 + 1, 0, none⟩) 2 2, .slice (some ⟨w.heap.size + 1 + 1 + 1 + 1 + 1 + 1 + 1, 0, none⟩) 2 2] 35)
  have b7' := (Box.new (((((((w.alloc (.cells #[.int .i64 (-2), .int .i64 (-1)] 3)).alloc (.cells #[.int .i64 (-2), .int .i64 1] 3)).alloc (.cells #[.int .i64 (-1), .int .i64 (-2)] 3)).alloc (.cells #[.int .i64 (-1), .int .i64 2] 3)).alloc (.cells #[.int .i64 1, .int .i64 (-2)] 3)).alloc (.cells #[.int .i64 1, .int .i64 2] 3)).alloc (.cells #[.int .i64 2, .int .i64 (-1)] 3)) 3 #[.int .i64 2, .int .i64 1]).alloc (.cells #[.slice (some ⟨w.heap.size, 0, none⟩) 2 2, .slice (some ⟨w.heap.size + 1, 0, none⟩) 2 2, .slice (some ⟨w.heap.size + 1 + 1, 0, none⟩) 2 2, .slice (some ⟨w.heap.size + 1 + 1 + 1, 0, none⟩) 2 2, .slice (some ⟨w.heap.size + 1 + 1 + 1 + 1, 0, none⟩) 2 2, .slice (some ⟨w.heap.size + 1 + 1 + 1 + 1 + 1, 0, none⟩) 2 2, .slice (some ⟨w.heap.size + 1 + 1 + 1 + 1 + 1 + 1, 0, none⟩) 2 2, .slice (some ⟨w.heap.size + 1 + 1 + 1 + 1 + 1 + 1 + 1, 0, none⟩) 2 2] 35)
  simp only [World.size_alloc] at b1' b2' b3' b4' b5' b6' b7'
  exact ⟨[w.heap.size, w.heap.size + 1, w.heap.size + 1 + 1, w.heap.size + 1 + 1 + 1, w.heap.size + 1 + 1 + 1 + 1, w.heap.size + 1 + 1 + 1 + 1 + 1, w.heap.size + 1 + 1 + 1 + 1 + 1 + 1, w.heap.size + 1 + 1 + 1 + 1 + 1 + 1 + 1], ⟨⟨b0'.cell 0, b0'.cell 1⟩, ⟨b1'.cell 0, b1'.cell 1⟩, ⟨b2'.cell 0, b2'.cell 1⟩, ⟨b3'.cell 0, b3'.cell 1⟩, ⟨b4'.cell 0, b4'.cell 1⟩, ⟨b5'.cell 0, b5'.cell 1⟩, ⟨b6'.cell 0, b6'.cell 1⟩, ⟨b7'.cell 0, b7'.cell 1⟩, trivial⟩, row_new _ _ _ (by simp)⟩
set_option maxHeartbeats 1000000 in
set_option maxRecDepth 100000 in
theorem steps_c (s : ByteArray) (w : World) : Calls Tryz.prog 46 #[.string s] w (StepsEnd s.toList w) := by
  go_enter Tryz.func46, Tryz.ntmps46
  go_upto_region 2 with fail
  go_cut [4, 5] (fun a b wc => ∃ g4 g5 : Nat, a = .slice (some ⟨g4, 0, none⟩) 4 4 ∧ b = .slice (some ⟨g5, 0, none⟩) 4 4 ∧ StepRows wc g4 straight ∧ StepRows wc g5 slanted ∧ Below w.heap.size w wc)
  case first =>
    go_wp2_with fail
    go_meet
    case rel =>
      refine ⟨_, _, rfl, rfl, (lay4 w _ rfl (-1) 0 0 (-1) 0 1 1 0).then ?_, ?_, ?_⟩
      · exact ((((((Below.refl _ _).alloc (Nat.le_refl _) _).alloc (by simp <;> omega) _).alloc (by simp <;> omega) _).alloc (by simp <;> omega) _).alloc (by simp <;> omega) _)
      · exact lay4 _ _ (by simp) (-1) (-1) (-1) 1 1 (-1) 1 1
      · exact (((((((((((Below.refl _ _).alloc (Nat.le_refl _) _).alloc (by simp <;> omega) _).alloc (by simp <;> omega) _).alloc (by simp <;> omega) _).alloc (by simp <;> omega) _).alloc (by simp <;> omega) _).alloc (by simp <;> omega) _).alloc (by simp <;> omega) _).alloc (by simp <;> omega) _).alloc (by simp <;> omega) _)
  case rest =>
    obtain ⟨g4, g5, rfl, rfl, r4, r5, hb⟩ := hcut
    obtain ⟨gs4, i4, q4⟩ := r4
    obtain ⟨gs5, i5, q5⟩ := r5
    have l4 := hide (show (rowsOf gs4).length = 4 * 1 by rw [rowsOf, List.length_map, i4.length]; rfl)
    have l5 := hide (show (rowsOf gs5).length = 4 * 1 by rw [rowsOf, List.length_map, i5.length]; rfl)
    have z := hb.size
    have mk := World.ownsRow_made (base := wc.heap.size) (e := 35) (size := 1) wc #[] 0 (Nat.le_refl _) (by simp [maxLen]) rfl
    have q4a := q4.alloc (.cells #[] 35)
    go_wp2_with (first
      | (at_builtin; refine put_own rfl (.tmp 17) (.tmp 18) rfl Tryz.underlying95 elem_row rfl mk rfl l4.out q4a (one_rows _) (by omega) (by omega) (by simp) ?_; intro v2 w2 hown2 hg2 ho2; have hb2 := below_grown ((Below.refl wc.heap.size wc).alloc (Nat.le_refl _) _) (by simp) mk (Nat.le_refl _) hg2; have hz2 := hb2.size; clear hg2 ho2)
      | (at_builtin; refine put_own rfl (.tmp 19) (.tmp 20) rfl Tryz.underlying95 elem_row rfl hown2 rfl l5.out (q5.below hb2) (one_rows _) (by omega) (by omega) hz2 ?_; intro v3 w3 hown3 hg3 ho3; have hb3 := below_grown hb2 hz2 hown2 (Nat.le_refl _) hg3; clear hg3 ho3))
    all_goals go_ret2
    · have k0 : (s.toList == [115, 116, 101, 112]) = true := by assumption
      unfold StepsEnd
      rw [show kindL s.toList = some (straight, false) from by simp [kindL, k0]]
      exact ⟨g4, 4, rfl, StepRows.then ⟨gs4, i4, q4⟩ hb3, below_then hb z hb3⟩
    · have k0 : (s.toList == [115, 116, 101, 112]) = false := by assumption
      have k1 : (s.toList == [107, 105, 110, 103]) = true := by assumption
      unfold StepsEnd
      rw [show kindL s.toList = some (both, false) from by simp [kindL, k0, k1]]
      obtain ⟨g, c, rfl, _, _, hrow, _⟩ := own_one hown3 (by omega)
      exact ⟨g, c, rfl, ⟨gs4 ++ gs5, (i4.then hb3).append (i5.then hb3), by simpa [rowsOf] using hrow⟩, below_then hb z hb3⟩
    · have k0 : (s.toList == [115, 116, 101, 112]) = false := by assumption
      have k1 : (s.toList == [107, 105, 110, 103]) = false := by assumption
      have k2 : (s.toList == [107, 110, 105, 103, 104, 116]) = true := by assumption
      unfold StepsEnd
      rw [show kindL s.toList = some (knights, false) from by simp [kindL, k0, k1, k2]]
      exact ⟨_, 8, rfl, lay8 _ _ rfl, below_then hb z ((((((((((hb3.alloc (by have := hb3.size; simp <;> omega) _).alloc (by have := hb3.size; simp <;> omega) _).alloc (by have := hb3.size; simp <;> omega) _).alloc (by have := hb3.size; simp <;> omega) _).alloc (by have := hb3.size; simp <;> omega) _).alloc (by have := hb3.size; simp <;> omega) _).alloc (by have := hb3.size; simp <;> omega) _).alloc (by have := hb3.size; simp <;> omega) _).alloc (by have := hb3.size; simp <;> omega) _))⟩
    · have k0 : (s.toList == [115, 116, 101, 112]) = false := by assumption
      have k1 : (s.toList == [107, 105, 110, 103]) = false := by assumption
      have k2 : (s.toList == [107, 110, 105, 103, 104, 116]) = false := by assumption
      have k3 : (s.toList == [114, 111, 111, 107]) = true := by assumption
      unfold StepsEnd
      rw [show kindL s.toList = some (straight, true) from by simp [kindL, k0, k1, k2, k3]]
      exact ⟨g4, 4, rfl, StepRows.then ⟨gs4, i4, q4⟩ hb3, below_then hb z hb3⟩
    · have k0 : (s.toList == [115, 116, 101, 112]) = false := by assumption
      have k1 : (s.toList == [107, 105, 110, 103]) = false := by assumption
      have k2 : (s.toList == [107, 110, 105, 103, 104, 116]) = false := by assumption
      have k3 : (s.toList == [114, 111, 111, 107]) = false := by assumption
      have k4 : (s.toList == [98, 105, 115, 104, 111, 112]) = true := by assumption
      unfold StepsEnd
      rw [show kindL s.toList = some (slanted, true) from by simp [kindL, k0, k1, k2, k3, k4]]
      exact ⟨g5, 4, rfl, StepRows.then ⟨gs5, i5, q5⟩ hb3, below_then hb z hb3⟩
    · have k0 : (s.toList == [115, 116, 101, 112]) = false := by assumption
      have k1 : (s.toList == [107, 105, 110, 103]) = false := by assumption
      have k2 : (s.toList == [107, 110, 105, 103, 104, 116]) = false := by assumption
      have k3 : (s.toList == [114, 111, 111, 107]) = false := by assumption
      have k4 : (s.toList == [98, 105, 115, 104, 111, 112]) = false := by assumption
      have k5 : (s.toList == [113, 117, 101, 101, 110]) = true := by assumption
      unfold StepsEnd
      rw [show kindL s.toList = some (both, true) from by simp [kindL, k0, k1, k2, k3, k4, k5]]
      obtain ⟨g, c, rfl, _, _, hrow, _⟩ := own_one hown3 (by omega)
      exact ⟨g, c, rfl, ⟨gs4 ++ gs5, (i4.then hb3).append (i5.then hb3), by simpa [rowsOf] using hrow⟩, below_then hb z hb3⟩
    · have k0 : (s.toList == [115, 116, 101, 112]) = false := by assumption
      have k1 : (s.toList == [107, 105, 110, 103]) = false := by assumption
      have k2 : (s.toList == [107, 110, 105, 103, 104, 116]) = false := by assumption
      have k3 : (s.toList == [114, 111, 111, 107]) = false := by assumption
      have k4 : (s.toList == [98, 105, 115, 104, 111, 112]) = false := by assumption
      have k5 : (s.toList == [113, 117, 101, 101, 110]) = false := by assumption
      unfold StepsEnd
      rw [show kindL s.toList = none from by simp [kindL, k0, k1, k2, k3, k4, k5]]
      exact ⟨rfl, below_then hb z hb3⟩
end Go.Proofs.YtmfdlijkpdgimaaGreatDoor

/-
  Seats: the powers of two, and which rows are seats, by the program and by the model.
-/
namespace Go.Proofs.YtmfdlijkpdgimaaGreatDoor
open Go.RowKit
set_option linter.unusedVariables false

def fullP (n : Nat) : Int := ((2 ^ n : Nat) : Int) - 1
theorem pow_bd {n : Nat} (h : n ≤ 6) : 1 ≤ 2 ^ n ∧ 2 ^ n ≤ 64 :=
  ⟨Nat.one_le_two_pow, Nat.le_trans (Nat.pow_le_pow_right (by omega) h) (by decide)⟩
theorem full_bd {n : Nat} (h1 : 1 ≤ n) (h5 : n ≤ 5) : 1 ≤ fullP n ∧ fullP n ≤ 31 := by
  obtain rfl | rfl | rfl | rfl | rfl : n = 1 ∨ n = 2 ∨ n = 3 ∨ n = 4 ∨ n = 5 := by omega
  all_goals decide
def SeatsTo (F : Int) (l : List Int) (k : Nat) : Prop := ∀ i, i < k → 0 ≤ l[i]?.getD 0 ∧ l[i]?.getD 0 ≤ F
instance (F : Int) (l : List Int) (k : Nat) : Decidable (SeatsTo F l k) := by unfold SeatsTo; infer_instance
def Seats (l : List Int) : Prop := (1 ≤ l.length ∧ l.length ≤ 5) ∧ SeatsTo (fullP l.length) l l.length
instance (l : List Int) : Decidable (Seats l) := by unfold Seats; infer_instance
theorem SeatsTo.zero (F : Int) (l : List Int) : SeatsTo F l 0 := fun i h => absurd h (by omega)
theorem SeatsTo.succ {F : Int} {l : List Int} {k : Nat} (h : SeatsTo F l k) (h1 : 0 ≤ l[k]?.getD 0) (h2 : l[k]?.getD 0 ≤ F) : SeatsTo F l (k + 1) := fun i hi => by
  by_cases e : i = k
  · subst e; exact ⟨h1, h2⟩
  · exact h i (by omega)
theorem SeatsTo.not {F : Int} {l : List Int} {k : Nat} (hk : k < l.length) (h : ¬ (0 ≤ l[k]?.getD 0 ∧ l[k]?.getD 0 ≤ F)) : ¬ SeatsTo F l l.length := fun hs => h (hs k hk)

theorem specPower_c (n : Nat) (hn : n ≤ 6) (w : World) : Calls Tryz.prog 49 #[.int .i64 (n : Int)] w fun e w' => e = .returned (.int .i64 ((2 ^ n : Nat) : Int)) ∧ w = w' := by
  go_enter Tryz.func49, Tryz.ntmps49
  go_wp2_with fail
  go_loopw [0, 3] (fun a p wr => ∃ k : Nat, k ≤ n ∧ a = .int .i64 ((n - k : Nat) : Int) ∧ p = .int .i64 ((2 ^ k : Nat) : Int) ∧ w = wr) (fun a _ _ => (intOf a).toNat)
  case atStart => exact ⟨0, Nat.zero_le _, by simp, rfl, rfl⟩
  case round =>
    obtain ⟨k, hk, rfl, rfl, rfl⟩ := hrel
    by_cases hlt : k < n
    · have hb := pow_bd (n := k) (by omega)
      have hpos : (0 : Int) < ((n - k : Nat) : Int) := by omega
      have hle : ((n - k : Nat) : Int) ≤ 6 := by omega
      have hp2 : Hid ((2 ^ (k + 1) : Nat) = 2 * 2 ^ k) := by show 2 ^ (k + 1) = 2 * 2 ^ k; rw [Nat.pow_succ, Nat.mul_comm]
      have hs := hide (show ((n - k : Nat) : Int) - 1 = ((n - (k + 1) : Nat) : Int) by omega)
      generalize hP : (2 ^ k : Nat) = P at *
      generalize hM : ((n - k : Nat) : Int) = M at *
      clear hP
      go_wp2_with fail
      exact ⟨⟨k + 1, hlt, by rw [hs.out], by rw [hp2.out]; push_cast; rfl, trivial⟩, by simp [intOf]; omega⟩
    · have hkk : Hid (k = n) := hide (by omega)
      have hz : ((n - k : Nat) : Int) = 0 := by omega
      rw [hz]
      go_wp2_with fail
      go_ret
      exact ⟨by rw [hkk.out]; rfl, rfl⟩
theorem fullSeats_c (n : Nat) (h1 : 1 ≤ n) (h5 : n ≤ 5) (w : World) : Calls Tryz.prog 104 #[.int .i64 (n : Int)] w fun e w' => e = .returned (.int .i64 (fullP n)) ∧ w = w' := by
  obtain rfl | rfl | rfl | rfl | rfl : n = 1 ∨ n = 2 ∨ n = 3 ∨ n = 4 ∨ n = 5 := by omega
  all_goals
    go_enter Tryz.func104, Tryz.ntmps104
    go_wp2
    go_ret
    exact ⟨rfl, rfl⟩

end Go.Proofs.YtmfdlijkpdgimaaGreatDoor

/-
  The reference model's validCells; a number in a list; ascending.
-/
namespace Go.Proofs.YtmfdlijkpdgimaaGreatDoor
open Go.RowKit
set_option linter.unusedVariables false

theorem inRange_t (n lo hi : Int) (w : World) (h1 : lo ≤ n) (h2 : n ≤ hi) : Calls Tryz.prog 28 #[.int .i64 n, .int .i64 lo, .int .i64 hi] w fun e w' => e = .returned (.bool true) ∧ w' = w :=
  (inRange_c n lo hi w).mono fun e w' ⟨he, hw⟩ => ⟨by rw [he, decide_eq_true ⟨h1, h2⟩], hw⟩
theorem inRange_f (n lo hi : Int) (w : World) (h : ¬ (lo ≤ n ∧ n ≤ hi)) : Calls Tryz.prog 28 #[.int .i64 n, .int .i64 lo, .int .i64 hi] w fun e w' => e = .returned (.bool false) ∧ w' = w :=
  (inRange_c n lo hi w).mono fun e w' ⟨he, hw⟩ => ⟨by rw [he, decide_eq_false h], hw⟩

end Go.Proofs.YtmfdlijkpdgimaaGreatDoor

/-
  The reference model's ascending: numbers put into their places one by one.
-/
namespace Go.Proofs.YtmfdlijkpdgimaaGreatDoor
open Go.RowKit
set_option linter.unusedVariables false

theorem elem_int' : Elem Tryz.prog 3 1 8 := Elem.of (z := .int .i64 0) (by kernel_rfl) rfl (by omega)

/-- An append to a row of the call's own, as a step of a region that draws its order. -/
theorem step_put {P : Program} {ops : Array Oper} {o : Oper} {a : Act} {w : World} {K : Act → World → Prop} {Q : Exit → Act → World → Prop} {E : Prop} (hgd : o.guard = none) (s x : Operand) {t : TypeId}
    (ho : o.op = .call { callee := .builtin .append, args := #[s, x], argTypes := #[t, t] })
    {e : TypeId} {size bytes : Nat} (ht : P.underlying t = some (.slice e)) (he : Elem P e size bytes)
    {B n m c : Nat} {v : Value} {xs news : List Value} {A : Option Addr} (hs : a.eval s = v) (hown : w.ownsRow B e size v n xs) (hx : a.eval x = .slice A m c) (hl : news.length = m * size) (hr : Row w A news)
    (h1 : ∀ u ∈ news, u.oneCell' = true) (hsmall : n + m ≤ 1099511627776) (hbytes : bytes ≤ 100) (hB : B ≤ w.heap.size)
    (h : ∀ v' w', w'.ownsRow B e size v' (n + m) (xs ++ news) → w.grownBy w' v.ownBlock → (v'.ownBlock = v.ownBlock ∨ v'.ownBlock = some w.heap.size) → K (a.put o.dst v') w') :
    if Region.wanted o (yielded ops a.tmps) = true then Oper.wp P o a w K Q else E := by
  have hw : Region.wanted o (yielded ops a.tmps) = true := by simp [Region.wanted, hgd]
  rw [if_pos hw]
  obtain ⟨v', w', hrun, h2, h3, h4⟩ := put_run (P := P) w o.type ht he (c := c) hown hl hr h1 hsmall hbytes hB
  unfold Oper.wp execOp
  simp only [ho, resolve, invoke, builtin, Sem.run_bind, Sem.run_pure, Result.andThen_ok, List.map_toArray, List.map_cons, List.map_nil, hs, hx, hrun]
  exact h v' w' h2 h3 h4

theorem one_ints (l : List Int) : ∀ u ∈ ints l, u.oneCell' = true := by
  intro u hu
  simp only [ints, List.mem_map] at hu
  obtain ⟨g, _, rfl⟩ := hu
  rfl
theorem Row.upto {w : World} {A : Option Addr} {out : List Int} (h : Row w A (ints out)) (j : Nat) : Row w A (ints (out.take j)) := fun i hi => by
  simp only [ints, List.length_map, List.length_take] at hi
  obtain ⟨ad, e, hc⟩ := h i (by simp; omega)
  exact ⟨ad, e, by rw [hc]; simp⟩
theorem Row.cut {w : World} {ao : Addr} {out : List Int} (h : Row w (some ao) (ints out)) {j c : Nat} (hj : j ≤ out.length) (hc : out.length ≤ c) : Row w (if c = j then some ao else some (ao.add j)) (ints (out.drop j)) := fun i hi => by
  simp only [ints, List.length_map, List.length_drop] at hi
  obtain ⟨_, ⟨rfl⟩, hc⟩ := h (j + i) (by simp; omega)
  rw [if_neg (by omega)]
  exact ⟨_, rfl, by rw [addr_far, hc]; simp⟩
set_option maxHeartbeats 2000000 in
set_option maxRecDepth 100000 in
theorem asc_ins (L : Option Addr) (lc : Nat) (l : List Int) (w : World) (hr : Row w L (ints l)) (hm : l.length ≤ 1000000) :
    Calls Tryz.prog 48 #[.slice L l.length lc] w (Owns 3 1 (ascP l).length (ints (ascP l)) w) := by
  go_enter Tryz.func48, Tryz.ntmps48
  go_wp2_with fail
  go_loopw [3, 4] (fun v i wr => ∃ (k : Nat) (out : List Int), k ≤ l.length ∧ i = .int .i64 k ∧ out.length = k ∧ Hid (out = ascP (l.take k)) ∧ wr.ownsRow w.heap.size 3 1 v out.length (ints out) ∧ Below w.heap.size w wr ∧ Hid (∃ ao c, v = .slice (some ao) out.length c)) (fun _ i _ => l.length - (intOf i).toNat)
  case atStart => exact ⟨0, [], Nat.zero_le _, rfl, rfl, rfl, World.ownsRow_made w #[] 0 (Nat.le_refl _) (by simp [maxLen]) rfl, (Below.refl _ _).alloc (Nat.le_refl _) _, ⟨_, _, rfl⟩⟩
  case round =>
    obtain ⟨k, out, hk, rfl, hlen, hacc, hown, hb, hform⟩ := hrel
    obtain ⟨wo, rfl⟩ : ∃ wo : World, wo = wr := ⟨_, rfl⟩
    obtain ⟨A, c, rfl, hc1, hc2, hro, hfr⟩ := own_row hown
    obtain ⟨ao, rfl⟩ : ∃ ao, A = some ao := by
      obtain ⟨ao, c', e⟩ := hform.out
      injection e with e
      exact ⟨_, e⟩
    clear hform
    have HL := hide hlen
    have Hfr := hide hfr
    clear hlen hfr
    unfold maxLen at hc2
    have hol : out.length ≤ 1000000 := by have := HL.out; omega
    have z := hb.size
    by_cases hlt : k < l.length
    · obtain ⟨ad, rfl, hca⟩ := (hr.below hb).int hlt
      obtain ⟨x, hx⟩ : ∃ x, l[k]?.getD 0 = x := ⟨_, rfl⟩
      rw [hx] at hca
      have X := hide hx
      clear hx
      go_wp2_with fail
      go_loopw [5] (fun i wr => ∃ j : Nat, j ≤ out.length ∧ i = .int .i64 j ∧ Hid (∀ m, m < j → out[m]?.getD 0 < x) ∧ Below wo.heap.size wo wr) (fun i _ => out.length - (intOf i).toNat)
      case atStart => exact ⟨0, Nat.zero_le _, rfl, fun m h => absurd h (by omega), Below.refl _ _⟩
      case round =>
        obtain ⟨j, hj, rfl, hbef, hb2⟩ := hrel
        obtain ⟨wi, rfl⟩ : ∃ wi : World, wi = wr := ⟨_, rfl⟩
        have hca2 := (hb2.cell (World.block_lt_of_cell? _ _ hca)).trans hca
        by_cases hj2 : j < out.length
        · obtain ⟨ao', e, hco⟩ := (hro.below hb2).int hj2
          obtain rfl : ao = ao' := by injection e
          clear e
          obtain ⟨y, hy⟩ : ∃ y, out[j]?.getD 0 = y := ⟨_, rfl⟩
          rw [hy] at hco
          have Y := hide hy
          clear hy
          have hdj : decide ((j : Int) < (out.length : Int)) = true := by simp; omega
          by_cases hyx : y < x
          · go_wp2_with fail
            go_quiet (fail)
            all_goals go_wp2_with fail
            exact ⟨⟨j + 1, hj2, rfl, fun m h => by
              by_cases e : m = j
              · subst e; rw [Y.out]; exact hyx
              · exact hbef.out m (by omega), below_drewN hb2 _⟩, by simp [intOf]; omega⟩
          · have hnext := hide (ins_at hbef.out hj (.inr (by rw [Y.out]; omega)))
            go_wp2_with fail
            go_quiet (fail)
            all_goals go_wp2_with fail
            have hb3 := below_drewN hb2 nq
            have hcq : (wi.drewN nq).cell? (ad.add k) = some (.int .i64 x) := hca2
            generalize wi.drewN nq = wq at *
            have b1 : (0 : Int) ≤ (j : Int) := by omega
            have b2 : (j : Int) ≤ (out.length : Int) := by omega
            have b3 : (out.length : Int) ≤ (c : Int) := by omega
            have b4 : (j : Int) ≤ (c : Int) := by omega
            have hadb : (ad.add k).block < wq.heap.size := World.block_lt_of_cell? _ _ hcq
            have mk0 := World.ownsRow_made (base := wq.heap.size) (e := 3) (size := 1) wq #[] 0 (Nat.le_refl _) (by simp [maxLen]) rfl
            have mkc := World.ownsRow_made (base := wq.heap.size) (e := 3) (size := 1) (wq.alloc (.cells #[.int .i64 x] 3)) #[] 0 (by simp) (by simp [maxLen]) rfl
            rw [World.size_alloc] at mkc
            have rq : Row wq (some ao) (ints out) := hro.below hb3
            have rt := rq.upto j
            have rd := rq.cut (j := j) (c := c) (by omega) (by omega)
            have hba : Below wq.heap.size wq (wq.alloc (.cells #[] 3)) := (Below.refl _ _).alloc (Nat.le_refl _) _
            have hbb : Below wq.heap.size wq ((wq.alloc (.cells #[] 3)).alloc (.cells #[.int .i64 x] 3)) := hba.alloc (by simp) _
            have hbc : Below wq.heap.size wq ((wq.alloc (.cells #[.int .i64 x] 3)).alloc (.cells #[] 3)) := ((Below.refl _ _).alloc (Nat.le_refl _) _).alloc (by simp) _
            have rxb : Row ((wq.alloc (.cells #[] 3)).alloc (.cells #[.int .i64 x] 3)) (some ⟨wq.heap.size + 1, 0, none⟩) [.int .i64 x] := row_new _ _ _ (by simp)
            have rxc : Row ((wq.alloc (.cells #[.int .i64 x] 3)).alloc (.cells #[] 3)) (some ⟨wq.heap.size, 0, none⟩) [.int .i64 x] := (row_new wq #[.int .i64 x] 3 rfl).alloc _
            go_region_held3 (fun w' => w'.cell? (ad.add k) = some (.int .i64 x)) (go_keep)
              (first
                | (refine step_put (by rfl) (.tmp 30) (.tmp 33) (by rfl) Tryz.underlying35 elem_int' (v := .slice (some ⟨wq.heap.size, 0, none⟩) 0 0) (A := some ao) (m := j) (c := c) (xs := []) (news := ints (out.take j)) (B := wq.heap.size) (by rfl) (mk0.drew) (by rfl) (by simp; omega) (rt.below hba.drew) (one_ints _) (by omega) (by omega) (by simp) ?_
                   intro v2 w2 hown2 hg2 ho2
                   have hb2' := below_grown hba.drew (by simp) mk0.drew (Nat.le_refl _) hg2
                   have hk2 := (hb2'.cell hadb).trans hcq)
                | (refine step_put (by rfl) (.tmp 30) (.tmp 33) (by rfl) Tryz.underlying35 elem_int' (v := .slice (some ⟨wq.heap.size, 0, none⟩) 0 0) (A := some ao) (m := j) (c := c) (xs := []) (news := ints (out.take j)) (B := wq.heap.size) (by rfl) ((mk0.alloc (.cells #[.int .i64 x] 3)).drew) (by rfl) (by simp; omega) (rt.below hbb.drew) (one_ints _) (by omega) (by omega) (by simp; omega) ?_
                   intro v2 w2 hown2 hg2 ho2
                   have hb2' := below_grown hbb.drew (by simp; omega) (mk0.alloc (.cells #[.int .i64 x] 3)).drew (Nat.le_refl _) hg2
                   have hk2 := (hb2'.cell hadb).trans hcq
                   have rx2 := rxb.drew.grown hg2 (by rintro _ ⟨rfl⟩; simp [Value.ownBlock]))
                | (refine step_put (by rfl) (.tmp 30) (.tmp 33) (by rfl) Tryz.underlying35 elem_int' (v := .slice (some ⟨wq.heap.size + 1, 0, none⟩) 0 0) (A := some ao) (m := j) (c := c) (xs := []) (news := ints (out.take j)) (B := wq.heap.size) (by rfl) (mkc.drew) (by rfl) (by simp; omega) (rt.below hbc.drew) (one_ints _) (by omega) (by omega) (by simp; omega) ?_
                   intro v2 w2 hown2 hg2 ho2
                   have hb2' := below_grown hbc.drew (by simp; omega) mkc.drew (Nat.le_refl _) hg2
                   have hk2 := (hb2'.cell hadb).trans hcq
                   have rx2 := rxc.drew.grown hg2 (by rintro _ ⟨rfl⟩; simp [Value.ownBlock]))
                | (refine step_put (by rfl) (.tmp 34) (.tmp 39) (by rfl) Tryz.underlying35 elem_int' (v := v2) (A := some ⟨w2.heap.size, 0, none⟩) (m := 1) (c := 1) (news := [.int .i64 x]) (B := wq.heap.size) (by rfl) (hown2.alloc _) (by rfl) (by rfl) (row_new w2 _ _ rfl) (by simp [Value.oneCell']) (by omega) (by omega) (by have := hb2'.size; simp; omega) ?_
                   intro v3 w3 hown3 hg3 ho3
                   have hb3' := below_grown (hb2'.alloc hb2'.size _) (by have := hb2'.size; simp; omega) (hown2.alloc _) (Nat.le_refl _) hg3
                   have hk3 := (hb3'.cell hadb).trans hcq)
                | (refine step_put (by rfl) (.tmp 34) (.tmp 39) (by rfl) Tryz.underlying35 elem_int' (v := v2) (m := 1) (c := 1) (news := [.int .i64 x]) (B := wq.heap.size) (by rfl) hown2 (by rfl) (by rfl) rx2 (by simp [Value.oneCell']) (by omega) (by omega) hb2'.size ?_
                   intro v3 w3 hown3 hg3 ho3
                   have hb3' := below_grown hb2' hb2'.size hown2 (Nat.le_refl _) hg3
                   have hk3 := (hb3'.cell hadb).trans hcq)
                | (refine step_put (by rfl) (.tmp 40) (.tmp 43) (by rfl) Tryz.underlying35 elem_int' (v := v3) (A := if c = j then some ao else some (ao.add j)) (m := out.length - j) (c := c - j) (news := ints (out.drop j)) (B := wq.heap.size) (by rfl) hown3 (by rfl) (by simp) (rd.below hb3') (one_ints _) (by omega) (by omega) hb3'.size ?_
                   intro v4 w4 hown4 hg4 ho4
                   have hb4' := below_grown hb3' hb3'.size hown3 (Nat.le_refl _) hg4
                   have hk4 := (hb4'.cell hadb).trans hcq))
            all_goals
              go_wp2_with fail
              refine ⟨⟨k + 1, insP x out, hlt, by go_num, by rw [ins_len, HL.out], ?_, ?_, below_then hb z (below_then hb3 hb3.size hb4'), ?_⟩, by simp [intOf]; omega⟩
              · rw [Hid, asc_snoc l k hlt, ← hacc.out, X.out]
              · have e := hnext.out
                rw [← e]
                have hl : 0 + j + 1 + (out.length - j) = (out.take j ++ x :: out.drop j).length := by simp; omega
                rw [← hl]
                exact own_mono (by simpa [ints] using hown4) (by have := hb3.size; have := hb2.size; omega)
              · obtain ⟨g, c4, e4, _⟩ := own_one hown4 (by omega)
                rw [e4, ins_len]
                exact ⟨_, _, by rw [show 0 + j + 1 + (out.length - j) = out.length + 1 from by omega]⟩
        · have hnext := hide (ins_at hbef.out hj (.inl (by omega)))
          have hdj : decide ((j : Int) < (out.length : Int)) = false := by simp; omega
          go_wp2_with fail
          go_quiet (fail)
          all_goals go_wp2_with fail
          have hb3 := below_drewN hb2 nq
          have hcq : (wi.drewN nq).cell? (ad.add k) = some (.int .i64 x) := hca2
          generalize wi.drewN nq = wq at *
          have b1 : (0 : Int) ≤ (j : Int) := by omega
          have b2 : (j : Int) ≤ (out.length : Int) := by omega
          have b3 : (out.length : Int) ≤ (c : Int) := by omega
          have b4 : (j : Int) ≤ (c : Int) := by omega
          have hadb : (ad.add k).block < wq.heap.size := World.block_lt_of_cell? _ _ hcq
          have mk0 := World.ownsRow_made (base := wq.heap.size) (e := 3) (size := 1) wq #[] 0 (Nat.le_refl _) (by simp [maxLen]) rfl
          have mkc := World.ownsRow_made (base := wq.heap.size) (e := 3) (size := 1) (wq.alloc (.cells #[.int .i64 x] 3)) #[] 0 (by simp) (by simp [maxLen]) rfl
          rw [World.size_alloc] at mkc
          have rq : Row wq (some ao) (ints out) := hro.below hb3
          have rt := rq.upto j
          have rd := rq.cut (j := j) (c := c) (by omega) (by omega)
          have hba : Below wq.heap.size wq (wq.alloc (.cells #[] 3)) := (Below.refl _ _).alloc (Nat.le_refl _) _
          have hbb : Below wq.heap.size wq ((wq.alloc (.cells #[] 3)).alloc (.cells #[.int .i64 x] 3)) := hba.alloc (by simp) _
          have hbc : Below wq.heap.size wq ((wq.alloc (.cells #[.int .i64 x] 3)).alloc (.cells #[] 3)) := ((Below.refl _ _).alloc (Nat.le_refl _) _).alloc (by simp) _
          have rxb : Row ((wq.alloc (.cells #[] 3)).alloc (.cells #[.int .i64 x] 3)) (some ⟨wq.heap.size + 1, 0, none⟩) [.int .i64 x] := row_new _ _ _ (by simp)
          have rxc : Row ((wq.alloc (.cells #[.int .i64 x] 3)).alloc (.cells #[] 3)) (some ⟨wq.heap.size, 0, none⟩) [.int .i64 x] := (row_new wq #[.int .i64 x] 3 rfl).alloc _
          go_region_held3 (fun w' => w'.cell? (ad.add k) = some (.int .i64 x)) (go_keep)
            (first
              | (refine step_put (by rfl) (.tmp 30) (.tmp 33) (by rfl) Tryz.underlying35 elem_int' (v := .slice (some ⟨wq.heap.size, 0, none⟩) 0 0) (A := some ao) (m := j) (c := c) (xs := []) (news := ints (out.take j)) (B := wq.heap.size) (by rfl) (mk0.drew) (by rfl) (by simp; omega) (rt.below hba.drew) (one_ints _) (by omega) (by omega) (by simp) ?_
                 intro v2 w2 hown2 hg2 ho2
                 have hb2' := below_grown hba.drew (by simp) mk0.drew (Nat.le_refl _) hg2
                 have hk2 := (hb2'.cell hadb).trans hcq)
              | (refine step_put (by rfl) (.tmp 30) (.tmp 33) (by rfl) Tryz.underlying35 elem_int' (v := .slice (some ⟨wq.heap.size, 0, none⟩) 0 0) (A := some ao) (m := j) (c := c) (xs := []) (news := ints (out.take j)) (B := wq.heap.size) (by rfl) ((mk0.alloc (.cells #[.int .i64 x] 3)).drew) (by rfl) (by simp; omega) (rt.below hbb.drew) (one_ints _) (by omega) (by omega) (by simp; omega) ?_
                 intro v2 w2 hown2 hg2 ho2
                 have hb2' := below_grown hbb.drew (by simp; omega) (mk0.alloc (.cells #[.int .i64 x] 3)).drew (Nat.le_refl _) hg2
                 have hk2 := (hb2'.cell hadb).trans hcq
                 have rx2 := rxb.drew.grown hg2 (by rintro _ ⟨rfl⟩; simp [Value.ownBlock]))
              | (refine step_put (by rfl) (.tmp 30) (.tmp 33) (by rfl) Tryz.underlying35 elem_int' (v := .slice (some ⟨wq.heap.size + 1, 0, none⟩) 0 0) (A := some ao) (m := j) (c := c) (xs := []) (news := ints (out.take j)) (B := wq.heap.size) (by rfl) (mkc.drew) (by rfl) (by simp; omega) (rt.below hbc.drew) (one_ints _) (by omega) (by omega) (by simp; omega) ?_
                 intro v2 w2 hown2 hg2 ho2
                 have hb2' := below_grown hbc.drew (by simp; omega) mkc.drew (Nat.le_refl _) hg2
                 have hk2 := (hb2'.cell hadb).trans hcq
                 have rx2 := rxc.drew.grown hg2 (by rintro _ ⟨rfl⟩; simp [Value.ownBlock]))
              | (refine step_put (by rfl) (.tmp 34) (.tmp 39) (by rfl) Tryz.underlying35 elem_int' (v := v2) (A := some ⟨w2.heap.size, 0, none⟩) (m := 1) (c := 1) (news := [.int .i64 x]) (B := wq.heap.size) (by rfl) (hown2.alloc _) (by rfl) (by rfl) (row_new w2 _ _ rfl) (by simp [Value.oneCell']) (by omega) (by omega) (by have := hb2'.size; simp; omega) ?_
                 intro v3 w3 hown3 hg3 ho3
                 have hb3' := below_grown (hb2'.alloc hb2'.size _) (by have := hb2'.size; simp; omega) (hown2.alloc _) (Nat.le_refl _) hg3
                 have hk3 := (hb3'.cell hadb).trans hcq)
              | (refine step_put (by rfl) (.tmp 34) (.tmp 39) (by rfl) Tryz.underlying35 elem_int' (v := v2) (m := 1) (c := 1) (news := [.int .i64 x]) (B := wq.heap.size) (by rfl) hown2 (by rfl) (by rfl) rx2 (by simp [Value.oneCell']) (by omega) (by omega) hb2'.size ?_
                 intro v3 w3 hown3 hg3 ho3
                 have hb3' := below_grown hb2' hb2'.size hown2 (Nat.le_refl _) hg3
                 have hk3 := (hb3'.cell hadb).trans hcq)
              | (refine step_put (by rfl) (.tmp 40) (.tmp 43) (by rfl) Tryz.underlying35 elem_int' (v := v3) (A := if c = j then some ao else some (ao.add j)) (m := out.length - j) (c := c - j) (news := ints (out.drop j)) (B := wq.heap.size) (by rfl) hown3 (by rfl) (by simp) (rd.below hb3') (one_ints _) (by omega) (by omega) hb3'.size ?_
                 intro v4 w4 hown4 hg4 ho4
                 have hb4' := below_grown hb3' hb3'.size hown3 (Nat.le_refl _) hg4
                 have hk4 := (hb4'.cell hadb).trans hcq))
          all_goals
            go_wp2_with fail
            refine ⟨⟨k + 1, insP x out, hlt, by go_num, by rw [ins_len, HL.out], ?_, ?_, below_then hb z (below_then hb3 hb3.size hb4'), ?_⟩, by simp [intOf]; omega⟩
            · rw [Hid, asc_snoc l k hlt, ← hacc.out, X.out]
            · have e := hnext.out
              rw [← e]
              have hl : 0 + j + 1 + (out.length - j) = (out.take j ++ x :: out.drop j).length := by simp; omega
              rw [← hl]
              exact own_mono (by simpa [ints] using hown4) (by have := hb3.size; have := hb2.size; omega)
            · obtain ⟨g, c4, e4, _⟩ := own_one hown4 (by omega)
              rw [e4, ins_len]
              exact ⟨_, _, by rw [show 0 + j + 1 + (out.length - j) = out.length + 1 from by omega]⟩
    · have hk2 : Hid (k = l.length) := hide (by omega)
      go_wp2_with fail
      go_ret
      have e : out = ascP l := by rw [hacc.out, hk2.out, List.take_of_length_le (Nat.le_refl _)]
      rw [← e]
      exact ⟨_, rfl, hown, hb⟩
end Go.Proofs.YtmfdlijkpdgimaaGreatDoor

/-
  The law's own small words: equality of two slices of integers.
-/
namespace Go.Proofs.YtmfdlijkpdgimaaGreatDoor
open Go.RowKit
set_option linter.unusedVariables false

theorem eqlist_step {xs ys : List Int} {k : Nat} (hk : k < xs.length) (hl : xs.length = ys.length) (he : xs.take k = ys.take k) (h : xs[k]?.getD 0 = ys[k]?.getD 0) : xs.take (k + 1) = ys.take (k + 1) := by
  rw [take_snoc xs k hk, take_snoc ys k (hl ▸ hk), he, h]

theorem elem_int0 : Elem Tryz.prog 3 1 8 := Elem.of (z := .int .i64 0) (by kernel_rfl) rfl (by omega)
def marks (k : Int) (n : Nat) : List Int := (List.range n).map fun (j : Nat) => k + (j : Int)
theorem marks_len (k : Int) (n : Nat) : (marks k n).length = n := by simp [marks]
theorem marks_at (k : Int) (n j : Nat) (h : j < n) : (marks k n)[j]? = some (k + (j : Int)) := by simp [marks, h]
def Marked (v : Value) (B : Nat) (k : Int) (n : Nat) (w : World) (e : Ending) (w' : World) : Prop :=
  e = .returned (.int .i64 (k + n)) ∧ w'.ownsRow B 3 1 v n (ints (marks k n)) ∧ w.grownBy w' v.ownBlock
end Go.Proofs.YtmfdlijkpdgimaaGreatDoor

/-
  Words of the laws' walks: what the call owns.
-/
namespace Go.Proofs.YtmfdlijkpdgimaaGreatDoor
open Go.RowKit
set_option linter.unusedVariables false

theorem own_reads {w : World} {base e size n c : Nat} {A : Option Addr} {cs : List Value} (h : w.ownsRow base e size (.slice A n c) n cs) : Row w A cs := by
  obtain ⟨A', c', he, _, _, hr, _⟩ := own_row h
  injection he with h1
  exact h1 ▸ hr
/-- What is owned below N stands where a row from N on is written. -/
theorem own_other {w w' : World} {base base' e e' size size' n n' N : Nat} {v u : Value} {xs ys : List Value} (h : w.ownsRow base e size v n xs) (hv : ∀ k, v.ownBlock = some k → k < N) (hu : w.ownsRow base' e' size' u n' ys) (hN : N ≤ base')
    (hg : w.grownBy w' u.ownBlock) : w'.ownsRow base e size v n xs :=
  h.kept hg (by
    cases hk : v.ownBlock with
    | none => exact .inl rfl
    | some k =>
      right
      intro e
      have := (hu.lt k e.symm).1
      have := hv k hk
      omega)
theorem own_other' {w w' : World} {base e size n N : Nat} {v u : Value} {xs : List Value} (h : w.ownsRow base e size v n xs) (hu : ∀ k, u.ownBlock = some k → k < N) (hN : N ≤ base) (hg : w.grownBy w' u.ownBlock) : w'.ownsRow base e size v n xs :=
  h.kept hg (by
    cases hk : v.ownBlock with
    | none => exact .inl rfl
    | some k =>
      right
      intro e
      have := (h.lt k hk).1
      have := hu k e.symm
      omega)
theorem own_lt {w : World} {base e size n : Nat} {v : Value} {xs : List Value} (h : w.ownsRow base e size v n xs) : ∀ k, v.ownBlock = some k → k < w.heap.size := fun k hk => (h.lt k hk).2

end Go.Proofs.YtmfdlijkpdgimaaGreatDoor

/-
  The reference model's reach.
-/
namespace Go.Proofs.YtmfdlijkpdgimaaGreatDoor
open Go.RowKit
set_option linter.unusedVariables false

def InB (bc br r c : Int) : Prop := 0 ≤ r ∧ r < br ∧ 0 ≤ c ∧ c < bc
instance (bc br r c : Int) : Decidable (InB bc br r c) := by unfold InB; infer_instance
theorem cell_parts {bc br r c : Int} (h1 : 1 ≤ bc) (h2 : bc ≤ 5) (h3 : 1 ≤ br) (h4 : br ≤ 5) (h : InB bc br r c) : (r * bc + c) / bc = r ∧ (r * bc + c) % bc = c ∧ (0 ≤ r * bc + c ∧ r * bc + c < bc * br) ∧ (0 ≤ r * bc ∧ r * bc ≤ 20) := by
  obtain ⟨a, b, c1, d⟩ := h
  obtain ⟨e1, e⟩ := row_bd h1 h2 h3 h4 a b c1 d
  refine ⟨?_, ?_, e, e1⟩
  · rw [Int.add_comm, Int.add_mul_ediv_right _ _ (by omega), Int.ediv_eq_zero_of_lt c1 d]; omega
  · rw [Int.add_comm, Int.add_mul_emod_self_right, Int.emod_eq_of_lt c1 d]
theorem next_in (bc br dr dc x : Int) : nextP bc br dr dc x = if InB bc br (x / bc + dr) (x % bc + dc) then some ((x / bc + dr) * bc + (x % bc + dc)) else none := rfl
/-- What is still to come from row r, column c. -/
def restP (bc br : Int) (far : Bool) (others : List Int) (dr dc : Int) (f : Nat) (r c : Int) : List Int := if InB bc br r c then rayA bc br far others dr dc f (r * bc + c) else []
theorem rest_goes (bc br : Int) (far : Bool) (others : List Int) (cell dr dc : Int) : goesP bc br far others cell (dr, dc) = restP bc br far others dr dc 5 (cell / bc + dr) (cell % bc + dc) := by
  unfold goesP restP
  simp only [next_in]
  split <;> simp_all
theorem rest_step {bc br : Int} {far : Bool} {others : List Int} {dr dc : Int} {f : Nat} {r c : Int} (h1 : 1 ≤ bc) (h2 : bc ≤ 5) (h3 : 1 ≤ br) (h4 : br ≤ 5) (h : InB bc br r c) (hf : far = true) (ho : ¬ (r * bc + c) ∈ others) :
    restP bc br far others dr dc (f + 1) r c = (r * bc + c) :: restP bc br far others dr dc f (r + dr) (c + dc) := by
  obtain ⟨e1, e2, _⟩ := cell_parts h1 h2 h3 h4 h
  rw [restP, if_pos h, rayA, if_pos ⟨hf, by rw [List.contains_eq_mem]; simpa using ho⟩, next_in, e1, e2]
  unfold restP
  split <;> simp_all
theorem rest_stop {bc br : Int} {far : Bool} {others : List Int} {dr dc : Int} {f : Nat} {r c : Int} (h : InB bc br r c) (hs : far = false ∨ (r * bc + c) ∈ others) :
    restP bc br far others dr dc (f + 1) r c = [r * bc + c] := by
  rw [restP, if_pos h, rayA, if_neg]
  rintro ⟨a, b⟩
  rcases hs with hs | hs
  · rw [hs] at a; cases a
  · rw [List.contains_eq_mem, decide_eq_false_iff_not] at b; exact b hs
theorem rest_out {bc br : Int} {far : Bool} {others : List Int} {dr dc : Int} {f : Nat} {r c : Int} (h : ¬ InB bc br r c) : restP bc br far others dr dc f r c = [] := by rw [restP, if_neg h]
/-- How far the edge is, by row and column. -/
def potR (bc br dr dc r c : Int) : Int := if 0 < dr then br - 1 - r else if dr < 0 then r else if 0 < dc then bc - 1 - c else c
theorem potR_bd {bc br dr dc r c : Int} (h2 : bc ≤ 5) (h4 : br ≤ 5) (h : InB bc br r c) : 0 ≤ potR bc br dr dc r c ∧ potR bc br dr dc r c ≤ 4 := by
  obtain ⟨a, b, c1, d⟩ := h
  unfold potR
  split
  · omega
  · split
    · omega
    · split <;> omega
theorem potR_next {bc br dr dc r c : Int} (hs : okStep (dr, dc)) : potR bc br dr dc (r + dr) (c + dc) < potR bc br dr dc r c := by
  obtain ⟨_, _, h5⟩ := hs
  simp only at h5
  unfold potR
  split
  · omega
  · split
    · omega
    · split <;> omega

set_option maxHeartbeats 2000000 in
set_option maxRecDepth 100000 in
theorem specReach_c (bc br cell : Int) (s : ByteArray) (O : Option Addr) (oc : Nat) (ss : List (Int × Int)) (far : Bool) (others : List Int) (w : World) (hk : kindL s.toList = some (ss, far)) (h1 : 1 ≤ bc) (h2 : bc ≤ 5) (h3 : 1 ≤ br) (h4 : br ≤ 5)
    (g1 : 0 ≤ cell) (g2 : cell < bc * br) (ho : Row w O (ints others)) (hol : others.length ≤ maxLen) :
    Calls Tryz.prog 30 #[.int .i64 bc, .int .i64 br, .string s, .int .i64 cell, .slice O others.length oc] w (Owns 3 1 (reachP bc br far others cell ss).length (ints (reachP bc br far others cell ss)) w) := by
  obtain ⟨hs, hn, _⟩ := kind_ok hk
  have hst := steps_c s
  unfold StepsEnd at hst
  simp only [hk] at hst
  have Hst := hide hst
  clear hst hk
  have hbr := (mul_bd h1 h2 h3 h4).2
  have g3 : cell < 25 := by omega
  obtain ⟨⟨q1, q2⟩, r1, r2⟩ := quo_bd h1 h2 g1 g3
  go_enter Tryz.func30, Tryz.ntmps30
  go_wp2_with fail
  refine (Hst.out _).mono ?_
  rintro e w1 ⟨gg, lc, rfl, hst, hb1⟩
  clear Hst
  go_wp2_with fail
  go_loopw [13, 14] (fun v i wr => ∃ (k : Nat) (acc : List Int), k ≤ ss.length ∧ i = .int .i64 k ∧ wr.ownsRow w1.heap.size 3 1 v acc.length (ints acc) ∧ Hid (acc = cellsP bc br far others cell (ss.take k)) ∧ acc.length ≤ 5 * k ∧
      Below w1.heap.size w1 wr) (fun _ i _ => ss.length - (intOf i).toNat)
  case atStart => exact ⟨0, [], Nat.zero_le _, rfl, World.ownsRow_made w1 #[] 0 (Nat.le_refl _) (by simp [maxLen]) rfl, rfl, by simp, (Below.refl _ _).alloc (Nat.le_refl _) _⟩
  case round =>
    obtain ⟨k, acc, hk, rfl, hown, hacc, hal, hb⟩ := hrel
    obtain ⟨wo, rfl⟩ : ∃ wo : World, wo = wr := ⟨_, rfl⟩
    have z := hb.size
    have z0 := hb1.size
    by_cases hlt : k < ss.length
    · obtain ⟨g, ca, cb, cc⟩ := (hst.then hb).at_ hlt
      obtain ⟨dr, dc, hp⟩ : ∃ dr dc, ss[k] = (dr, dc) := ⟨_, _, rfl⟩
      have hok := hs.out _ (List.getElem_mem hlt)
      rw [hp] at cb cc hok
      have HT : Hid (cellsP bc br far others cell (ss.take (k + 1)) = acc ++ restP bc br far others dr dc 5 (cell / bc + dr) (cell % bc + dc)) := by
        rw [cells_snoc _ _ _ _ _ _ _ hlt, hp, hacc.out, rest_goes]; exact rfl
      have P := hide hp
      clear hp
      have OK := hide hok
      obtain ⟨⟨s1, s2⟩, ⟨s3, s4⟩, _⟩ := hok
      simp only at s1 s2 s3 s4 cb cc
      go_wp2_with fail
      go_quiet (fail)
      all_goals go_wp2_with fail
      go_quiet (fail)
      all_goals go_wp2_with fail
      have hown := own_below hown (Below.refl wo.heap.size wo)
      have R0 : Hid (cell / bc + dr = cell / bc + dr) := rfl
      have hr0 : -10 ≤ cell / bc + dr ∧ cell / bc + dr ≤ 30 := by omega
      have hc0 : -10 ≤ cell % bc + dc ∧ cell % bc + dc ≤ 30 := by omega
      generalize cell / bc + dr = r0 at *
      generalize cell % bc + dc = c0 at *
      obtain ⟨r0a, r0b⟩ := hr0
      obtain ⟨c0a, c0b⟩ := hc0
      clear R0
      go_loopg [13, 15, 16] 5 (fun f v a b wr => ∃ (acc' : List Int) (r c : Int), a = .int .i64 r ∧ b = .int .i64 c ∧ wr.ownsRow w1.heap.size 3 1 v acc'.length (ints acc') ∧ Hid (cellsP bc br far others cell (ss.take (k + 1)) = acc' ++ restP bc br far others dr dc f r c) ∧
          acc'.length + f ≤ 5 * k + 5 ∧ Hid (InB bc br r c → potR bc br dr dc r c < f) ∧ Below w1.heap.size w1 wr ∧ (-10 ≤ r ∧ r ≤ 30) ∧ (-10 ≤ c ∧ c ≤ 30))
      case atStart => exact ⟨acc, r0, c0, rfl, rfl, hown, HT.out, by omega, fun h => by have := (potR_bd (dr := dr) (dc := dc) h2 h4 h).2; omega, below_drewN (below_drewN hb _) _, ⟨r0a, r0b⟩, ⟨c0a, c0b⟩⟩
      case round =>
        obtain ⟨acc', r, c, rfl, rfl, hown', hacc', hal', hpot, hb', ⟨ra, rb⟩, ⟨cL, cH⟩⟩ := hrel
        obtain ⟨wi, rfl⟩ : ∃ wi : World, wi = wr := ⟨_, rfl⟩
        have zi := hb'.size
        by_cases hrow : 0 ≤ r ∧ r ≤ br - 1
        · by_cases hcol : 0 ≤ c ∧ c ≤ bc - 1
          · have hin : InB bc br r c := ⟨hrow.1, by omega, hcol.1, by omega⟩
            obtain ⟨p1, p2, ⟨p3, p4⟩, p5, p6⟩ := cell_parts h1 h2 h3 h4 hin
            have hp0 := (potR_bd (dr := dr) (dc := dc) h2 h4 hin).1
            have hp1 := hpot.out hin
            obtain ⟨f, rfl⟩ : ∃ f, gk = f + 1 := ⟨gk - 1, by omega⟩
            have HIN := hide hin
            have E1 := hide p1
            have E2 := hide p2
            clear p1 p2 hin
            have q1' := hrow.1
            have q2' := hrow.2
            have q3' := hcol.1
            have q4' := hcol.2
            clear hrow hcol
            go_wp2_with fail
            refine (inRange_yes r 0 (br - 1) _ q1' q2').mono ?_
            rintro e w' ⟨rfl, rfl⟩
            go_wp2_with fail
            refine (inRange_yes c 0 (bc - 1) _ q3' q4').mono ?_
            rintro e w' ⟨rfl, rfl⟩
            cases far with
            | false =>
              go_wp2_with ((at_builtin; refine put_own rfl (.tmp 59) (.tmp 65) rfl Tryz.underlying35 elem_int' rfl (hown'.alloc _) rfl (m := 1) (news := [.int .i64 (r * bc + c)]) rfl (row_new _ _ _ rfl) (by simp [Value.oneCell']) (by omega) (by omega) (by simp; omega) ?_; intro v3 w3 hown3 hg3 ho3; have hb3 := below_grown (hb'.alloc zi _) (by simp; omega) (hown'.alloc _) (Nat.le_refl _) hg3; clear hg3 ho3))
              exact ⟨⟨k + 1, acc' ++ [r * bc + c], hlt, rfl, by simpa using hown3, by rw [hacc'.out, rest_stop HIN.out (.inl rfl)]; exact rfl, by simp; omega, hb3⟩, by simp [intOf]; omega⟩
            | true =>
              by_cases hmem : (r * bc + c) ∈ others
              · have hcon : ∀ w5 : World, Below w1.heap.size w1 w5 → Calls Tryz.prog 47 #[.slice O others.length oc, .int .i64 (r * bc + c)] w5 (Plain (.bool true) w5) := fun w5 h5 => by
                  have := hasInt_c O others oc (r * bc + c) w5 ((ho.below hb1).below h5) hol
                  rwa [decide_eq_true hmem] at this
                have Hcon := hide hcon
                have HM := hide hmem
                clear hcon hmem
                go_wp2_with ((at_builtin; refine put_own rfl (.tmp 59) (.tmp 65) rfl Tryz.underlying35 elem_int' rfl (hown'.alloc _) rfl (m := 1) (news := [.int .i64 (r * bc + c)]) rfl (row_new _ _ _ rfl) (by simp [Value.oneCell']) (by omega) (by omega) (by simp; omega) ?_; intro v3 w3 hown3 hg3 ho3; have hb3 := below_grown (hb'.alloc zi _) (by simp; omega) (hown'.alloc _) (Nat.le_refl _) hg3; clear hg3 ho3))
                refine (Hcon.out _ hb3).mono ?_
                rintro e w4 ⟨rfl, hb4⟩
                go_wp2_with fail
                exact ⟨⟨k + 1, acc' ++ [r * bc + c], hlt, rfl, by simpa using own_below hown3 hb4, by rw [hacc'.out, rest_stop HIN.out (.inr HM.out)]; exact rfl, by simp; omega, below_then hb3 hb3.size hb4⟩, by simp [intOf]; omega⟩
              · have hcon : ∀ w5 : World, Below w1.heap.size w1 w5 → Calls Tryz.prog 47 #[.slice O others.length oc, .int .i64 (r * bc + c)] w5 (Plain (.bool false) w5) := fun w5 h5 => by
                  have := hasInt_c O others oc (r * bc + c) w5 ((ho.below hb1).below h5) hol
                  rwa [decide_eq_false hmem] at this
                have Hcon := hide hcon
                have HM := hide hmem
                clear hcon hmem
                go_wp2_with ((at_builtin; refine put_own rfl (.tmp 59) (.tmp 65) rfl Tryz.underlying35 elem_int' rfl (hown'.alloc _) rfl (m := 1) (news := [.int .i64 (r * bc + c)]) rfl (row_new _ _ _ rfl) (by simp [Value.oneCell']) (by omega) (by omega) (by simp; omega) ?_; intro v3 w3 hown3 hg3 ho3; have hb3 := below_grown (hb'.alloc zi _) (by simp; omega) (hown'.alloc _) (Nat.le_refl _) hg3; clear hg3 ho3))
                refine (Hcon.out _ hb3).mono ?_
                rintro e w4 ⟨rfl, hb4⟩
                have hb4' := below_then hb3 hb3.size hb4
                obtain ⟨g', da, db, dd⟩ := (hst.then hb4').at_ hlt
                rw [P.out] at db dd
                simp only at db dd
                go_wp2_with fail
                go_roundg f
                case rel => exact ⟨acc' ++ [r * bc + c], r + dr, c + dc, rfl, rfl, by simpa using own_below hown3 hb4, by rw [hacc'.out, rest_step h1 h2 h3 h4 HIN.out rfl HM.out]; simp [Hid], by simp; omega, fun h => by have := potR_next (bc := bc) (br := br) (r := r) (c := c) OK.out; omega, hb4', ⟨by omega, by omega⟩, ⟨by omega, by omega⟩⟩
                case measure => omega
          · have hnin : ¬ InB bc br r c := fun h => hcol ⟨h.2.2.1, by have := h.2.2.2; omega⟩
            have HN := hide hnin
            have q1' := hrow.1
            have q2' := hrow.2
            clear hnin hrow
            go_wp2_with fail
            refine (inRange_yes r 0 (br - 1) _ q1' q2').mono ?_
            rintro e w' ⟨rfl, rfl⟩
            go_wp2_with fail
            refine (inRange_no c 0 (bc - 1) _ hcol).mono ?_
            rintro e w' ⟨rfl, rfl⟩
            go_wp2_with fail
            exact ⟨⟨k + 1, acc', hlt, rfl, hown', by rw [hacc'.out, rest_out HN.out]; simp [Hid], by omega, hb'⟩, by simp [intOf]; omega⟩
        · have hnin : ¬ InB bc br r c := fun h => hrow ⟨h.1, by have := h.2.1; omega⟩
          have HN := hide hnin
          clear hnin
          go_wp2_with fail
          refine (inRange_no r 0 (br - 1) _ hrow).mono ?_
          rintro e w' ⟨rfl, rfl⟩
          go_wp2_with fail
          exact ⟨⟨k + 1, acc', hlt, rfl, hown', by rw [hacc'.out, rest_out HN.out]; simp [Hid], by omega, hb'⟩, by simp [intOf]; omega⟩
    · have hk2 : Hid (k = ss.length) := hide (by omega)
      obtain ⟨A, c, rfl, _, _, hro, _⟩ := own_row hown
      go_wp2_with fail
      refine (asc_ins A c acc _ hro (by omega)).mono ?_
      rintro e w2 ⟨v, rfl, hown2, hb2⟩
      have hlist : reachP bc br far others cell ss = ascP acc := by
        rw [ascP_eq, hacc.out, hk2.out, List.take_of_length_le (Nat.le_refl _)]; rfl
      have HE : Hid (w2.ownsRow w.heap.size 3 1 v (reachP bc br far others cell ss).length (ints (reachP bc br far others cell ss))) := by
        rw [hlist]; exact own_mono hown2 (by omega)
      clear hlist hown2
      go_wp2_with fail
      go_ret
      exact ⟨_, rfl, HE.out, below_then hb1 z0 (below_then hb z hb2)⟩
end Go.Proofs.YtmfdlijkpdgimaaGreatDoor
