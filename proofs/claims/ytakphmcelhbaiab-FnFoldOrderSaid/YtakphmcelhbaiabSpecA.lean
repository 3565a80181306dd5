
/-
  The reference model's small words: inRange, validBoard, hasInt, steps, validKind.
-/
import Derived.Test.YtakphmcelhbaiabReach
import Derived.Test.YtakphmcelhbaiabProg
import Derived.RegionTactic
import Derived.Deep.QuietTactic
import Derived.BigQuiet
import Derived.ProofKit
import Derived.Handy
import Derived.Deep.DeepCutAuto
namespace Go.Proofs.Ytakphmcelhbaiab
open Go.RowKit
set_option linter.unusedVariables false

theorem inRange_c (n lo hi : Int) (w : World) : Calls Try.prog 48 #[.int .i64 n, .int .i64 lo, .int .i64 hi] w fun e w' => e = .returned (.bool (decide (lo ≤ n ∧ n ≤ hi))) ∧ w' = w := by
  by_cases h1 : lo ≤ n
  · by_cases h2 : n ≤ hi
    · go_enter Try.func48, Try.ntmps48
      go_wp2
      go_ret
      exact ⟨ret_bool (by simp; omega), rfl⟩
    · go_enter Try.func48, Try.ntmps48
      go_wp2
      go_ret
      exact ⟨ret_bool (by simp; omega), rfl⟩
  · go_enter Try.func48, Try.ntmps48
    go_wp2
    go_ret
    exact ⟨ret_bool (by simp; omega), rfl⟩
theorem inRange_yes (n lo hi : Int) (w : World) (h1 : lo ≤ n) (h2 : n ≤ hi) : Calls Try.prog 48 #[.int .i64 n, .int .i64 lo, .int .i64 hi] w fun e w' => e = .returned (.bool true) ∧ w = w' :=
  (inRange_c n lo hi w).mono fun e w' ⟨he, hw⟩ => ⟨by rw [he, decide_eq_true ⟨h1, h2⟩], hw.symm⟩
theorem inRange_no (n lo hi : Int) (w : World) (h : ¬ (lo ≤ n ∧ n ≤ hi)) : Calls Try.prog 48 #[.int .i64 n, .int .i64 lo, .int .i64 hi] w fun e w' => e = .returned (.bool false) ∧ w = w' :=
  (inRange_c n lo hi w).mono fun e w' ⟨he, hw⟩ => ⟨by rw [he, decide_eq_false h], hw.symm⟩
theorem validBoard_yes (bc br : Int) (w : World) (h : Brd bc br) : Calls Try.prog 33 #[.int .i64 bc, .int .i64 br] w fun e w' => e = .returned (.bool true) ∧ w = w' := by
  obtain ⟨h1, h2, h3, h4⟩ := h
  go_enter Try.func33, Try.ntmps33
  go_wp2_with fail
  refine (inRange_yes bc 1 5 _ h1 h2).mono ?_
  rintro e w' ⟨rfl, rfl⟩
  go_wp2_with fail
  refine (inRange_yes br 1 5 _ h3 h4).mono ?_
  rintro e w' ⟨rfl, rfl⟩
  go_wp2_with fail
  go_ret
  exact ⟨rfl, rfl⟩
theorem validBoard_no (bc br : Int) (w : World) (h : ¬ Brd bc br) : Calls Try.prog 33 #[.int .i64 bc, .int .i64 br] w fun e w' => e = .returned (.bool false) ∧ w = w' := by
  unfold Brd at h
  by_cases h1 : 1 ≤ bc ∧ bc ≤ 5
  · have h2 : ¬ (1 ≤ br ∧ br ≤ 5) := by omega
    obtain ⟨h1, h1'⟩ := h1
    go_enter Try.func33, Try.ntmps33
    go_wp2_with fail
    refine (inRange_yes bc 1 5 _ h1 h1').mono ?_
    rintro e w' ⟨rfl, rfl⟩
    go_wp2_with fail
    refine (inRange_no br 1 5 _ h2).mono ?_
    rintro e w' ⟨rfl, rfl⟩
    go_wp2_with fail
    go_ret
    exact ⟨rfl, rfl⟩
  · clear h
    go_enter Try.func33, Try.ntmps33
    go_wp2_with fail
    refine (inRange_no bc 1 5 _ h1).mono ?_
    rintro e w' ⟨rfl, rfl⟩
    go_wp2_with fail
    go_ret
    exact ⟨rfl, rfl⟩

theorem mem_step {l : List Int} {k : Nat} {x : Int} (hk : k < l.length) (h : (l.take k).contains x = false) (hx : (l[k]?.getD 0 == x) = false) : (l.take (k + 1)).contains x = false := by
  rw [take_snoc l k hk, List.contains_eq_mem, decide_eq_false_iff_not, List.mem_append]
  rw [List.contains_eq_mem, decide_eq_false_iff_not] at h
  rintro (h' | h')
  · exact h h'
  · simp only [List.mem_singleton] at h'
    subst h'
    simp at hx
theorem mem_hit {l : List Int} {k : Nat} {x : Int} (hk : k < l.length) (hx : (l[k]?.getD 0 == x) = true) : l.contains x = true := by
  simp only [beq_iff_eq, List.getElem?_eq_getElem hk, Option.getD_some] at hx
  rw [List.contains_iff_mem, ← hx]
  exact List.getElem_mem hk

set_option maxHeartbeats 400000 in
theorem hasInt_c (A : Option Addr) (l : List Int) (c : Nat) (x : Int) (w : World) (hr : Row w A (ints l)) (hm : l.length ≤ maxLen) :
    Calls Try.prog 32 #[.slice A l.length c, .int .i64 x] w (Plain (.bool (decide (x ∈ l))) w) := by
  unfold maxLen at hm
  go_enter Try.func32, Try.ntmps32
  go_wp2
  go_loop [5] (fun i => ∃ k : Nat, k ≤ l.length ∧ i = .int .i64 k ∧ Hid ((l.take k).contains x = false)) (fun i => l.length - (intOf i).toNat)
  case atStart => exact ⟨0, Nat.zero_le _, rfl, rfl⟩
  case round =>
    obtain ⟨k, hk, rfl, he⟩ := hrel
    by_cases hlt : k < l.length
    · obtain ⟨ad, rfl, hca⟩ := hr.int hlt
      obtain ⟨y, hy⟩ : ∃ y, l[k]?.getD 0 = y := ⟨_, rfl⟩
      rw [hy] at hca
      have Y := hide hy
      clear hy
      cases hb : (y == x) with
      | true =>
        go_wp2
        go_ret
        exact ⟨ret_bool (by rw [← List.contains_eq_mem]; exact (mem_hit hlt (by rw [Y.out]; exact hb)).symm), Below.refl _ _⟩
      | false =>
        go_wp2
        exact ⟨⟨k + 1, hlt, rfl, mem_step hlt he.out (by rw [Y.out]; exact hb)⟩, by simp [intOf]; omega⟩
    · have hk2 : Hid (k = l.length) := hide (by omega)
      go_wp2
      go_ret
      exact ⟨ret_bool (by have e := he.out; rw [hk2.out, List.take_of_length_le (Nat.le_refl _)] at e; rw [← List.contains_eq_mem]; exact e.symm), Below.refl _ _⟩
set_option maxHeartbeats 400000 in
theorem isIn_c (A : Option Addr) (l : List Int) (c : Nat) (x : Int) (w : World) (hr : Row w A (ints l)) (hm : l.length ≤ maxLen) :
    Calls Try.prog 29 #[.slice A l.length c, .int .i64 x] w (Plain (.bool (decide (x ∈ l))) w) := by
  unfold maxLen at hm
  go_enter Try.func29, Try.ntmps29
  go_wp2
  go_loop [5] (fun i => ∃ k : Nat, k ≤ l.length ∧ i = .int .i64 k ∧ Hid ((l.take k).contains x = false)) (fun i => l.length - (intOf i).toNat)
  case atStart => exact ⟨0, Nat.zero_le _, rfl, rfl⟩
  case round =>
    obtain ⟨k, hk, rfl, he⟩ := hrel
    by_cases hlt : k < l.length
    · obtain ⟨ad, rfl, hca⟩ := hr.int hlt
      obtain ⟨y, hy⟩ : ∃ y, l[k]?.getD 0 = y := ⟨_, rfl⟩
      rw [hy] at hca
      have Y := hide hy
      clear hy
      cases hb : (y == x) with
      | true =>
        go_wp2
        go_ret
        exact ⟨ret_bool (by rw [← List.contains_eq_mem]; exact (mem_hit hlt (by rw [Y.out]; exact hb)).symm), Below.refl _ _⟩
      | false =>
        go_wp2
        exact ⟨⟨k + 1, hlt, rfl, mem_step hlt he.out (by rw [Y.out]; exact hb)⟩, by simp [intOf]; omega⟩
    · have hk2 : Hid (k = l.length) := hide (by omega)
      go_wp2
      go_ret
      exact ⟨ret_bool (by have e := he.out; rw [hk2.out, List.take_of_length_le (Nat.le_refl _)] at e; rw [← List.contains_eq_mem]; exact e.symm), Below.refl _ _⟩

/-- The model's steps: rows of two numbers, in the blocks gs. -/
def Inner (w : World) : List Nat → List (Int × Int) → Prop
  | [], [] => True
  | g :: gs, p :: ss => (w.cell? ⟨g, 0, none⟩ = some (.int .i64 p.1) ∧ w.cell? ⟨g, 1, none⟩ = some (.int .i64 p.2)) ∧ Inner w gs ss
  | _, _ => False
def rowsOf (gs : List Nat) : List Value := gs.map fun g => .slice (some ⟨g, 0, none⟩) 2 2
def StepRows (w : World) (gg : Nat) (ss : List (Int × Int)) : Prop := ∃ gs, Inner w gs ss ∧ Row w (some ⟨gg, 0, none⟩) (rowsOf gs)
theorem Inner.then {w w' : World} {gs : List Nat} {ss : List (Int × Int)} (h : Inner w gs ss) (hb : Below w.heap.size w w') : Inner w' gs ss := by
  induction gs generalizing ss with
  | nil =>
    cases ss with
    | nil => trivial
    | cons => exact absurd h (by simp [Inner])
  | cons g gs ih =>
    cases ss with
    | nil => exact h
    | cons p ss =>
      obtain ⟨⟨a, b⟩, c⟩ := h
      exact ⟨⟨(hb.cell (World.block_lt_of_cell? _ _ a)).trans a, (hb.cell (World.block_lt_of_cell? _ _ b)).trans b⟩, ih c⟩
theorem Inner.append {w : World} {gs gs' : List Nat} {ss ss' : List (Int × Int)} (h : Inner w gs ss) (h' : Inner w gs' ss') : Inner w (gs ++ gs') (ss ++ ss') := by
  induction gs generalizing ss with
  | nil => cases ss with | nil => exact h' | cons => exact absurd h (by simp [Inner])
  | cons g gs ih =>
    cases ss with
    | nil => exact absurd h (by simp [Inner])
    | cons p ss => exact ⟨h.1, ih h.2⟩
theorem Inner.length {w : World} {gs : List Nat} {ss : List (Int × Int)} (h : Inner w gs ss) : gs.length = ss.length := by
  induction gs generalizing ss with
  | nil => cases ss with | nil => rfl | cons => exact absurd h (by simp [Inner])
  | cons g gs ih =>
    cases ss with
    | nil => exact absurd h (by simp [Inner])
    | cons p ss => simp [ih h.2]
theorem Inner.at_ {w : World} {gs : List Nat} {ss : List (Int × Int)} (h : Inner w gs ss) {i : Nat} (hi : i < ss.length) (hg : i < gs.length) : w.cell? ⟨gs[i], 0, none⟩ = some (.int .i64 ss[i].1) ∧ w.cell? ⟨gs[i], 1, none⟩ = some (.int .i64 ss[i].2) := by
  induction gs generalizing ss i with
  | nil => simp at hg
  | cons g gs ih =>
    cases ss with
    | nil => simp at hi
    | cons p ss =>
      cases i with
      | zero => exact h.1
      | succ i => exact ih h.2 (by simpa using hi) (by simpa using hg)
theorem one_rows (gs : List Nat) : ∀ u ∈ rowsOf gs, u.oneCell' = true := by
  intro u hu
  simp only [rowsOf, List.mem_map] at hu
  obtain ⟨g, _, rfl⟩ := hu
  rfl
theorem StepRows.then {w w' : World} {gg : Nat} {ss : List (Int × Int)} (h : StepRows w gg ss) (hb : Below w.heap.size w w') : StepRows w' gg ss := by
  obtain ⟨gs, h1, h2⟩ := h
  exact ⟨gs, h1.then hb, h2.below hb⟩
theorem StepRows.at_ {w : World} {gg : Nat} {ss : List (Int × Int)} (h : StepRows w gg ss) {i : Nat} (hi : i < ss.length) :
    ∃ g, w.cell? ⟨gg, i, none⟩ = some (.slice (some ⟨g, 0, none⟩) 2 2) ∧ w.cell? ⟨g, 0, none⟩ = some (.int .i64 ss[i].1) ∧ w.cell? ⟨g, 1, none⟩ = some (.int .i64 ss[i].2) := by
  obtain ⟨gs, h1, h2⟩ := h
  have hg : i < gs.length := by rw [h1.length]; exact hi
  obtain ⟨_, ⟨rfl⟩, hc⟩ := h2 i (by simpa [rowsOf] using hg)
  rw [show (⟨gg, 0, none⟩ : Addr).add i = ⟨gg, i, none⟩ from by unfold Addr.add; split <;> simp_all] at hc
  exact ⟨gs[i], by rw [hc]; simp [rowsOf], h1.at_ hi hg⟩
def StepsEnd (s : List UInt8) (w : World) (e : Ending) (w' : World) : Prop :=
  match kindL s with
  | some (ss, far) => ∃ gg c, e = .returned (.tuple #[.slice (some ⟨gg, 0, none⟩) ss.length c, .bool far]) ∧ StepRows w' gg ss ∧ Below w.heap.size w w'
  | none => e = .returned (.tuple #[.slice none 0 0, .bool false]) ∧ Below w.heap.size w w'
theorem elem_row : Elem Try.prog 22 1 24 := Elem.of (z := .slice none 0 0) (by kernel_rfl) rfl (by omega)
theorem lay4 (w : World) (n : Nat) (hn : n = w.heap.size) (a0 b0 a1 b1 a2 b2 a3 b3 : Int) :
    StepRows (((((w.alloc (.cells #[.int .i64 a0, .int .i64 b0] 3)).alloc (.cells #[.int .i64 a1, .int .i64 b1] 3)).alloc (.cells #[.int .i64 a2, .int .i64 b2] 3)).alloc (.cells #[.int .i64 a3, .int .i64 b3] 3)).alloc
      (.cells #[.slice (some ⟨n, 0, none⟩) 2 2, .slice (some ⟨n + 1, 0, none⟩) 2 2, .slice (some ⟨n + 1 + 1, 0, none⟩) 2 2, .slice (some ⟨n + 1 + 1 + 1, 0, none⟩) 2 2] 22)) (n + 1 + 1 + 1 + 1) [(a0, b0), (a1, b1), (a2, b2), (a3, b3)] := by
  subst hn
  have b0' := ((((Box.new w 3 #[.int .i64 a0, .int .i64 b0]).alloc (.cells #[.int .i64 a1, .int .i64 b1] 3)).alloc (.cells #[.int .i64 a2, .int .i64 b2] 3)).alloc (.cells #[.int .i64 a3, .int .i64 b3] 3)).alloc (.cells #[.slice (some ⟨w.heap.size, 0, none⟩) 2 2, .slice (some ⟨w.heap.size + 1, 0, none⟩) 2 2, .slice (some ⟨w.heap.size + 1 + 1, 0, none⟩) 2 2, .slice (some ⟨w.heap.size + 1 + 1 + 1, 0, none⟩) 2 2] 22)
  have b1' := (((Box.new (w.alloc (.cells #[.int .i64 a0, .int .i64 b0] 3)) 3 #[.int .i64 a1, .int .i64 b1]).alloc (.cells #[.int .i64 a2, .int .i64 b2] 3)).alloc (.cells #[.int .i64 a3, .int .i64 b3] 3)).alloc (.cells #[.slice (some ⟨w.heap.size, 0, none⟩) 2 2, .slice (some ⟨w.heap.size + 1, 0, none⟩) 2 2, .slice (some ⟨w.heap.size + 1 + 1, 0, none⟩) 2 2, .slice (some ⟨w.heap.size + 1 + 1 + 1, 0, none⟩) 2 2] 22)
  have b2' := ((Box.new ((w.alloc (.cells #[.int .i64 a0, .int .i64 b0] 3)).alloc (.cells #[.int .i64 a1, .int .i64 b1] 3)) 3 #[.int .i64 a2, .int .i64 b2]).alloc (.cells #[.int .i64 a3, .int .i64 b3] 3)).alloc (.cells #[.slice (some ⟨w.heap.size, 0, none⟩) 2 2, .slice (some ⟨w.heap.size + 1, 0, none⟩) 2 2, .slice (some ⟨w.heap.size + 1 + 1, 0, none⟩) 2 2, .slice (some ⟨w.heap.size + 1 + 1 + 1, 0, none⟩) 2 2] 22)
  have b3' := (Box.new (((w.alloc (.cells #[.int .i64 a0, .int .i64 b0] 3)).alloc (.cells #[.int .i64 a1, .int .i64 b1] 3)).alloc (.cells #[.int .i64 a2, .int .i64 b2] 3)) 3 #[.int .i64 a3, .int .i64 b3]).alloc (.cells #[.slice (some ⟨w.heap.size, 0, none⟩) 2 2, .slice (some ⟨w.heap.size + 1, 0, none⟩) 2 2, .slice (some ⟨w.heap.size + 1 + 1, 0, none⟩) 2 2, .slice (some ⟨w.heap.size + 1 + 1 + 1, 0, none⟩) 2 2] 22)
  simp only [World.size_alloc] at b1' b2' b3'
  exact ⟨[w.heap.size, w.heap.size + 1, w.heap.size + 1 + 1, w.heap.size + 1 + 1 + 1], ⟨⟨b0'.cell 0, b0'.cell 1⟩, ⟨b1'.cell 0, b1'.cell 1⟩, ⟨b2'.cell 0, b2'.cell 1⟩, ⟨b3'.cell 0, b3'.cell 1⟩, trivial⟩, row_new _ _ _ (by simp)⟩
theorem lay8 (w : World) (n : Nat) (hn : n = w.heap.size) :
    StepRows (((((((((w.alloc (.cells #[.int .i64 (-2), .int .i64 (-1)] 3)).alloc (.cells #[.int .i64 (-2), .int .i64 1] 3)).alloc (.cells #[.int .i64 (-1), .int .i64 (-2)] 3)).alloc (.cells #[.int .i64 (-1), .int .i64 2] 3)).alloc (.cells #[.int .i64 1, .int .i64 (-2)] 3)).alloc (.cells #[.int .i64 1, .int .i64 2] 3)).alloc (.cells #[.int .i64 2, .int .i64 (-1)] 3)).alloc (.cells #[.int .i64 2, .int .i64 1] 3)).alloc (.cells #[.slice (some ⟨n, 0, none⟩) 2 2, .slice (some ⟨n + 1, 0, none⟩) 2 2, .slice (some ⟨n + 1 + 1, 0, none⟩) 2 2, .slice (some ⟨n + 1 + 1 + 1, 0, none⟩) 2 2, .slice (some ⟨n + 1 + 1 + 1 + 1, 0, none⟩) 2 2, .slice (some ⟨n + 1 + 1 + 1 + 1 + 1, 0, none⟩) 2 2, .slice (some ⟨n + 1 + 1 + 1 + 1 + 1 + 1, 0, none⟩) 2 2, .slice (some ⟨n + 1 + 1 + 1 + 1 + 1 + 1 + 1, 0, none⟩) 2 2] 22)) (n + 1 + 1 + 1 + 1 + 1 + 1 + 1 + 1) knights := by
  subst hn
  have b0' := ((((((((Box.new w 3 #[.int .i64 (-2), .int .i64 (-1)]).alloc (.cells #[.int .i64 (-2), .int .i64 1] 3)).alloc (.cells #[.int .i64 (-1), .int .i64 (-2)] 3)).alloc (.cells #[.int .i64 (-1), .int .i64 2] 3)).alloc (.cells #[.int .i64 1, .int .i64 (-2)] 3)).alloc (.cells #[.int .i64 1, .int .i64 2] 3)).alloc (.cells #[.int .i64 2, .int .i64 (-1)] 3)).alloc (.cells #[.int .i64 2, .int .i64 1] 3)).alloc (.cells #[.slice (some ⟨w.heap.size, 0, none⟩) 2 2, .slice (some ⟨w.heap.size + 1, 0, none⟩) 2 2, .slice (some ⟨w.heap.size + 1 + 1, 0, none⟩) 2 2, .slice (some ⟨w.heap.size + 1 + 1 + 1, 0, none⟩) 2 2, .slice (some ⟨w.heap.size + 1 + 1 + 1 + 1, 0, none⟩) 2 2, .slice (some ⟨w.heap.size + 1 + 1 + 1 + 1 + 1, 0, none⟩) 2 2, .slice (some ⟨w.heap.size + 1 + 1 + 1 + 1 + 1 + 1, 0, none⟩) 2 2, .slice (some ⟨w.heap.size + 1 + 1 + 1 + 1 + 1 + 1 + 1, 0, none⟩) 2 2] 22)
  have b1' := (((((((Box.new (w.alloc (.cells #[.int .i64 (-2), .int .i64 (-1)] 3)) 3 #[.int .i64 (-2), .int .i64 1]).alloc (.cells #[.int .i64 (-1), .int .i64 (-2)] 3)).alloc (.cells #[.int .i64 (-1), .int .i64 2] 3)).alloc (.cells #[.int .i64 1, .int .i64 (-2)] 3)).alloc (.cells #[.int .i64 1, .int .i64 2] 3)).alloc (.cells #[.int .i64 2, .int .i64 (-1)] 3)).alloc (.cells #[.int .i64 2, .int .i64 1] 3)).alloc (.cells #[.slice (some ⟨w.heap.size, 0, none⟩) 2 2, .slice (some ⟨w.heap.size + 1, 0, none⟩) 2 2, .slice (some ⟨w.heap.size + 1 + 1, 0, none⟩) 2 2, .slice (some ⟨w.heap.size + 1 + 1 + 1, 0, none⟩) 2 2, .slice (some ⟨w.heap.size + 1 + 1 + 1 + 1, 0, none⟩) 2 2, .slice (some ⟨w.heap.size + 1 + 1 + 1 + 1 + 1, 0, none⟩) 2 2, .slice (some ⟨w.heap.size + 1 + 1 + 1 + 1 + 1 + 1, 0, none⟩) 2 2, .slice (some ⟨w.heap.size + 1 + 1 + 1 + 1 + 1 + 1 + 1, 0, none⟩) 2 2] 22)
  have b2' := ((((((Box.new ((w.alloc (.cells #[.int .i64 (-2), .int .i64 (-1)] 3)).alloc (.cells #[.int .i64 (-2), .int .i64 1] 3)) 3 #[.int .i64 (-1), .int .i64 (-2)]).alloc (.cells #[.int .i64 (-1), .int .i64 2] 3)).alloc (.cells #[.int .i64 1, .int .i64 (-2)] 3)).alloc (.cells #[.int .i64 1, .int .i64 2] 3)).alloc (.cells #[.int .i64 2, .int .i64 (-1)] 3)).alloc (.cells #[.int .i64 2, .int .i64 1] 3)).alloc (.cells #[.slice (some ⟨w.heap.size, 0, none⟩) 2 2, .slice (some ⟨w.heap.size + 1, 0, none⟩) 2 2, .slice (some ⟨w.heap.size + 1 + 1, 0, none⟩) 2 2, .slice (some ⟨w.heap.size + 1 + 1 + 1, 0, none⟩) 2 2, .slice (some ⟨w.heap.size + 1 + 1 + 1 + 1, 0, none⟩) 2 2, .slice (some ⟨w.heap.size + 1 + 1 + 1 + 1 + 1, 0, none⟩) 2 2, .slice (some ⟨w.heap.size + 1 + 1 + 1 + 1 + 1 + 1, 0, none⟩) 2 2, .slice (some ⟨w.heap.size + 1 + 1 + 1 + 1 + 1 + 1 + 1, 0, none⟩) 2 2] 22)
  have b3' := (((((Box.new (((w.alloc (.cells #[.int .i64 (-2), .int .i64 (-1)] 3)).alloc (.cells #[.int .i64 (-2), .int .i64 1] 3)).alloc (.cells #[.int .i64 (-1), .int .i64 (-2)] 3)) 3 #[.int .i64 (-1), .int .i64 2]).alloc (.cells #[.int .i64 1, .int .i64 (-2)] 3)).alloc (.cells #[.int .i64 1, .int .i64 2] 3)).alloc (.cells #[.int .i64 2, .int .i64 (-1)] 3)).alloc (.cells #[.int .i64 2, .int .i64 1] 3)).alloc (.cells #[.slice (some ⟨w.heap.size, 0, none⟩) 2 2, .slice (some ⟨w.heap.size + 1, 0, none⟩) 2 2, .slice (some ⟨w.heap.size + 1 + 1, 0, none⟩) 2 2, .slice (some ⟨w.heap.size + 1 + 1 + 1, 0, none⟩) 2 2, .slice (some ⟨w.heap.size + 1 + 1 + 1 + 1, 0, none⟩) 2 2, .slice (some ⟨w.heap.size + 1 + 1 + 1 + 1 + 1, 0, none⟩) 2 2, .slice (some ⟨w.heap.size + 1 + 1 + 1 + 1 + 1 + 1, 0, none⟩) 2 2, .slice (some ⟨w.heap.size + 1 + 1 + 1 + 1 + 1 + 1 + 1, 0, none⟩) 2 2] 22)
  have b4' := ((((Box.new ((((w.alloc (.cells #[.int .i64 (-2), .int .i64 (-1)] 3)).alloc (.cells #[.int .i64 (-2), .int .i64 1] 3)).alloc (.cells #[.int .i64 (-1), .int .i64 (-2)] 3)).alloc (.cells #[.int .i64 (-1), .int .i64 2] 3)) 3 #[.int .i64 1, .int .i64 (-2)]).alloc (.cells #[.int .i64 1, .int .i64 2] 3)).alloc (.cells #[.int .i64 2, .int .i64 (-1)] 3)).alloc (.cells #[.int .i64 2, .int .i64 1] 3)).alloc (.cells #[.slice (some ⟨w.heap.size, 0, none⟩) 2 2, .slice (some ⟨w.heap.size + 1, 0, none⟩) 2 2, .slice (some ⟨w.heap.size + 1 + 1, 0, none⟩) 2 2, .slice (some ⟨w.heap.size + 1 + 1 + 1, 0, none⟩) 2 2, .slice (some ⟨w.heap.size + 1 + 1 + 1 + 1, 0, none⟩) 2 2, .slice (some ⟨w.heap.size + 1 + 1 + 1 + 1 + 1, 0, none⟩) 2 2, .slice (some ⟨w.heap.size + 1 + 1 + 1 + 1 + 1 + 1, 0, none⟩) 2 2, .slice (some ⟨w.heap.size + 1 + 1 + 1 + 1 + 1 + 1 + 1, 0, none⟩) 2 2] 22)
  have b5' := (((Box.new (((((w.alloc (.cells #[.int .i64 (-2), .int .i64 (-1)] 3)).alloc (.cells #[.int .i64 (-2), .int .i64 1] 3)).alloc (.cells #[.int .i64 (-1), .int .i64 (-2)] 3)).alloc (.cells #[.int .i64 (-1), .int .i64 2] 3)).alloc (.cells #[.int .i64 1, .int .i64 (-2)] 3)) 3 #[.int .i64 1, .int .i64 2]).alloc (.cells #[.int .i64 2, .int .i64 (-1)] 3)).alloc (.cells #[.int .i64 2, .int .i64 1] 3)).alloc (.cells #[.slice (some ⟨w.heap.size, 0, none⟩) 2 2, .slice (some ⟨w.heap.size + 1, 0, none⟩) 2 2, .slice (some ⟨w.heap.size + 1 + 1, 0, none⟩) 2 2, .slice (some ⟨w.heap.size + 1 + 1 + 1, 0, none⟩) 2 2, .slice (some ⟨w.heap.size + 1 + 1 + 1 + 1, 0, none⟩) 2 2, .slice (some ⟨w.heap.size + 1 + 1 + 1 + 1 + 1, 0, none⟩) 2 2, .slice (some ⟨w.heap.size + 1 + 1 + 1 + 1 + 1 + 1, 0, none⟩) 2 2, .slice (some ⟨w.heap.size + 1 + 1 + 1 + 1 + 1 + 1 + 1, 0, none⟩) 2 2] 22)
  have b6' := ((Box.new ((((((w.alloc (.cells #[.int .i64 (-2), .int .i64 (-1)] 3)).alloc (.cells #[.int .i64 (-2), .int .i64 1] 3)).alloc (.cells #[.int .i64 (-1), .int .i64 (-2)] 3)).alloc (.cells #[.int .i64 (-1), .int .i64 2] 3)).alloc (.cells #[.int .i64 1, .int .i64 (-2)] 3)).alloc (.cells #[.int .i64 1, .int .i64 2] 3)) 3 #[.int .i64 2, .int .i64 (-1)]).alloc (.cells #[.int .i64 2, .int .i64 1] 3)).alloc (.cells #[.slice (some ⟨w.heap.size, 0, none⟩) 2 2, .slice (some ⟨w.heap.size + 1, 0, none⟩) 2 2, .slice (some ⟨w.heap.size + 1 + 1, 0, none⟩) 2 2, .slice (some ⟨w.heap.size + 1 + 1 + 1, 0, none⟩) 2 2, .slice (some ⟨w.heap.size + 1 + 1 + 1 + 1, 0, none⟩) 2 2, .slice (some ⟨w.heap.size + 1 + 1 + 1 + 1 + 1, 0, none⟩) 2 2, .slice (some ⟨w.heap.size + 1 + 1 + 1 + 1 + 1 + 1, 0, none⟩) 2 2, .slice (some ⟨w.heap.size + 1 + 1 + 1 + 1 + 1 + 1 + 1, 0, none⟩) 2 2] 22)
  have b7' := (Box.new (((((((w.alloc (.cells #[.int .i64 (-2), .int .i64 (-1)] 3)).alloc (.cells #[.int .i64 (-2), .int .i64 1] 3)).alloc (.cells #[.int .i64 (-1), .int .i64 (-2)] 3)).alloc (.cells #[.int .i64 (-1), .int .i64 2] 3)).alloc (.cells #[.int .i64 1, .int .i64 (-2)] 3)).alloc (.cells #[.int .i64 1, .int .i64 2] 3)).alloc (.cells #[.int .i64 2, .int .i64 (-1)] 3)) 3 #[.int .i64 2, .int .i64 1]).alloc (.cells #[.slice (some ⟨w.heap.size, 0, none⟩) 2 2, .slice (some ⟨w.heap.size + 1, 0, none⟩) 2 2, .slice (some ⟨w.heap.size + 1 + 1, 0, none⟩) 2 2, .slice (some ⟨w.heap.size + 1 + 1 + 1, 0, none⟩) 2 2, .slice (some ⟨w.heap.size + 1 + 1 + 1 + 1, 0, none⟩) 2 2, .slice (some ⟨w.heap.size + 1 + 1 + 1 + 1 + 1, 0, none⟩) 2 2, .slice (some ⟨w.heap.size + 1 + 1 + 1 + 1 + 1 + 1, 0, none⟩) 2 2, .slice (some ⟨w.heap.size + 1 + 1 + 1 + 1 + 1 + 1 + 1, 0, none⟩) 2 2] 22)
  simp only [World.size_alloc] at b1' b2' b3' b4' b5' b6' b7'
  exact ⟨[w.heap.size, w.heap.size + 1, w.heap.size + 1 + 1, w.heap.size + 1 + 1 + 1, w.heap.size + 1 + 1 + 1 + 1, w.heap.size + 1 + 1 + 1 + 1 + 1, w.heap.size + 1 + 1 + 1 + 1 + 1 + 1, w.heap.size + 1 + 1 + 1 + 1 + 1 + 1 + 1], ⟨⟨b0'.cell 0, b0'.cell 1⟩, ⟨b1'.cell 0, b1'.cell 1⟩, ⟨b2'.cell 0, b2'.cell 1⟩, ⟨b3'.cell 0, b3'.cell 1⟩, ⟨b4'.cell 0, b4'.cell 1⟩, ⟨b5'.cell 0, b5'.cell 1⟩, ⟨b6'.cell 0, b6'.cell 1⟩, ⟨b7'.cell 0, b7'.cell 1⟩, trivial⟩, row_new _ _ _ (by simp)⟩
set_option maxHeartbeats 1000000 in
set_option maxRecDepth 100000 in
theorem steps_c (s : ByteArray) (w : World) : Calls Try.prog 49 #[.string s] w (StepsEnd s.toList w) := by
  go_enter Try.func49, Try.ntmps49
  go_upto_region 2 with fail
  go_cut [4, 5] (fun a b wc => ∃ g4 g5 : Nat, a = .slice (some ⟨g4, 0, none⟩) 4 4 ∧ b = .slice (some ⟨g5, 0, none⟩) 4 4 ∧ StepRows wc g4 straight ∧ StepRows wc g5 slanted ∧ Below w.heap.size w wc)
  case first =>
    go_wp2_with fail
    go_meet
    case rel =>
      refine ⟨_, _, rfl, rfl, (lay4 w _ rfl (-1) 0 0 (-1) 0 1 1 0).then ?_, ?_, ?_⟩
      · exact ((((((Below.refl _ _).alloc (Nat.le_refl _) _).alloc (by simp <;> omega) _).alloc (by simp <;> omega) _).alloc (by simp <;> omega) _).alloc (by simp <;> omega) _)
      · exact lay4 _ _ (by simp) (-1) (-1) (-1) 1 1 (-1) 1 1
      · exact (((((((((((Below.refl _ _).alloc (Nat.le_refl _) _).alloc (by simp <;> omega) _).alloc (by simp <;> omega) _).alloc (by simp <;> omega) _).alloc (by simp <;> omega) _).alloc (by simp <;> omega) _).alloc (by simp <;> omega) _).alloc (by simp <;> omega) _).alloc (by simp <;> omega) _).alloc (by simp <;> omega) _)
  case rest =>
    obtain ⟨g4, g5, rfl, rfl, r4, r5, hb⟩ := hcut
    obtain ⟨gs4, i4, q4⟩ := r4
    obtain ⟨gs5, i5, q5⟩ := r5
    have l4 := hide (show (rowsOf gs4).length = 4 * 1 by rw [rowsOf, List.length_map, i4.length]; rfl)
    have l5 := hide (show (rowsOf gs5).length = 4 * 1 by rw [rowsOf, List.length_map, i5.length]; rfl)
    have z := hb.size
    have mk := World.ownsRow_made (base := wc.heap.size) (e := 22) (size := 1) wc #[] 0 (Nat.le_refl _) (by simp [maxLen]) rfl
    have q4a := q4.alloc (.cells #[] 22)
    go_wp2_with (first
      | (at_builtin; refine put_own rfl (.tmp 17) (.tmp 18) rfl Try.underlying48 elem_row rfl mk rfl l4.out q4a (one_rows _) (by omega) (by omega) (by simp) ?_; intro v2 w2 hown2 hg2 ho2; have hb2 := below_grown ((Below.refl wc.heap.size wc).alloc (Nat.le_refl _) _) (by simp) mk (Nat.le_refl _) hg2; have hz2 := hb2.size; clear hg2 ho2)
      | (at_builtin; refine put_own rfl (.tmp 19) (.tmp 20) rfl Try.underlying48 elem_row rfl hown2 rfl l5.out (q5.below hb2) (one_rows _) (by omega) (by omega) hz2 ?_; intro v3 w3 hown3 hg3 ho3; have hb3 := below_grown hb2 hz2 hown2 (Nat.le_refl _) hg3; clear hg3 ho3))
    all_goals go_ret2
    · have k0 : (s.toList == [115, 116, 101, 112]) = true := by assumption
      unfold StepsEnd
      rw [show kindL s.toList = some (straight, false) from by simp [kindL, k0]]
      exact ⟨g4, 4, rfl, StepRows.then ⟨gs4, i4, q4⟩ hb3, below_then hb z hb3⟩
    · have k0 : (s.toList == [115, 116, 101, 112]) = false := by assumption
      have k1 : (s.toList == [107, 105, 110, 103]) = true := by assumption
      unfold StepsEnd
      rw [show kindL s.toList = some (both, false) from by simp [kindL, k0, k1]]
      obtain ⟨g, c, rfl, _, _, hrow, _⟩ := own_one hown3 (by omega)
      exact ⟨g, c, rfl, ⟨gs4 ++ gs5, (i4.then hb3).append (i5.then hb3), by simpa [rowsOf] using hrow⟩, below_then hb z hb3⟩
    · have k0 : (s.toList == [115, 116, 101, 112]) = false := by assumption
      have k1 : (s.toList == [107, 105, 110, 103]) = false := by assumption
      have k2 : (s.toList == [107, 110, 105, 103, 104, 116]) = true := by assumption
      unfold StepsEnd
      rw [show kindL s.toList = some (knights, false) from by simp [kindL, k0, k1, k2]]
      exact ⟨_, 8, rfl, lay8 _ _ rfl, below_then hb z ((((((((((hb3.alloc (by have := hb3.size; simp <;> omega) _).alloc (by have := hb3.size; simp <;> omega) _).alloc (by have := hb3.size; simp <;> omega) _).alloc (by have := hb3.size; simp <;> omega) _).alloc (by have := hb3.size; simp <;> omega) _).alloc (by have := hb3.size; simp <;> omega) _).alloc (by have := hb3.size; simp <;> omega) _).alloc (by have := hb3.size; simp <;> omega) _).alloc (by have := hb3.size; simp <;> omega) _))⟩
    · have k0 : (s.toList == [115, 116, 101, 112]) = false := by assumption
      have k1 : (s.toList == [107, 105, 110, 103]) = false := by assumption
      have k2 : (s.toList == [107, 110, 105, 103, 104, 116]) = false := by assumption
      have k3 : (s.toList == [114, 111, 111, 107]) = true := by assumption
      unfold StepsEnd
      rw [show kindL s.toList = some (straight, true) from by simp [kindL, k0, k1, k2, k3]]
      exact ⟨g4, 4, rfl, StepRows.then ⟨gs4, i4, q4⟩ hb3, below_then hb z hb3⟩
    · have k0 : (s.toList == [115, 116, 101, 112]) = false := by assumption
      have k1 : (s.toList == [107, 105, 110, 103]) = false := by assumption
      have k2 : (s.toList == [107, 110, 105, 103, 104, 116]) = false := by assumption
      have k3 : (s.toList == [114, 111, 111, 107]) = false := by assumption
      have k4 : (s.toList == [98, 105, 115, 104, 111, 112]) = true := by assumption
      unfold StepsEnd
      rw [show kindL s.toList = some (slanted, true) from by simp [kindL, k0, k1, k2, k3, k4]]
      exact ⟨g5, 4, rfl, StepRows.then ⟨gs5, i5, q5⟩ hb3, below_then hb z hb3⟩
    · have k0 : (s.toList == [115, 116, 101, 112]) = false := by assumption
      have k1 : (s.toList == [107, 105, 110, 103]) = false := by assumption
      have k2 : (s.toList == [107, 110, 105, 103, 104, 116]) = false := by assumption
      have k3 : (s.toList == [114, 111, 111, 107]) = false := by assumption
      have k4 : (s.toList == [98, 105, 115, 104, 111, 112]) = false := by assumption
      have k5 : (s.toList == [113, 117, 101, 101, 110]) = true := by assumption
      unfold StepsEnd
      rw [show kindL s.toList = some (both, true) from by simp [kindL, k0, k1, k2, k3, k4, k5]]
      obtain ⟨g, c, rfl, _, _, hrow, _⟩ := own_one hown3 (by omega)
      exact ⟨g, c, rfl, ⟨gs4 ++ gs5, (i4.then hb3).append (i5.then hb3), by simpa [rowsOf] using hrow⟩, below_then hb z hb3⟩
    · have k0 : (s.toList == [115, 116, 101, 112]) = false := by assumption
      have k1 : (s.toList == [107, 105, 110, 103]) = false := by assumption
      have k2 : (s.toList == [107, 110, 105, 103, 104, 116]) = false := by assumption
      have k3 : (s.toList == [114, 111, 111, 107]) = false := by assumption
      have k4 : (s.toList == [98, 105, 115, 104, 111, 112]) = false := by assumption
      have k5 : (s.toList == [113, 117, 101, 101, 110]) = false := by assumption
      unfold StepsEnd
      rw [show kindL s.toList = none from by simp [kindL, k0, k1, k2, k3, k4, k5]]
      exact ⟨rfl, below_then hb z hb3⟩
theorem validKind_c (s : ByteArray) (w : World) : Calls Try.prog 34 #[.string s] w (Plain (.bool (kindL s.toList).isSome) w) := by
  have h := steps_c s
  unfold StepsEnd at h
  cases hk : kindL s.toList with
  | none =>
    simp only [hk] at h
    have H := hide h
    clear h hk
    go_enter Try.func34, Try.ntmps34
    go_wp2_with fail
    refine (H.out _).mono ?_
    rintro e w1 ⟨rfl, hb⟩
    go_wp2_with fail
    go_ret
    exact ⟨rfl, hb⟩
  | some p =>
    obtain ⟨ss, far⟩ := p
    have hl := (kind_ok hk).2.2
    simp only [hk] at h
    have H := hide h
    clear h hk
    go_enter Try.func34, Try.ntmps34
    go_wp2_with fail
    refine (H.out _).mono ?_
    rintro e w1 ⟨gg, c, rfl, hr, hb⟩
    go_wp2_with fail
    go_ret
    exact ⟨rfl, hb⟩
end Go.Proofs.Ytakphmcelhbaiab
