
/-
  The reference model's small words: inRange, validBoard, hasInt, steps, validKind.
-/
import Derived.Test.YtgbbmnnpphkkbaaReach
import Derived.Test.YtgbbmnnpphkkbaaProg
import Derived.RegionTactic
import Derived.Deep.QuietTactic
import Derived.BigQuiet
import Derived.ProofKit
import Derived.Handy
import Derived.Deep.DeepCutAuto
namespace Go.Proofs.Ytgbbmnnpphkkbaa
open Go.RowKit
set_option linter.unusedVariables false

theorem inRange_c (n lo hi : Int) (w : World) : Calls Try.prog 41 #[.int .i64 n, .int .i64 lo, .int .i64 hi] w fun e w' => e = .returned (.bool (decide (lo ≤ n ∧ n ≤ hi))) ∧ w' = w := by
  by_cases h1 : lo ≤ n
  · by_cases h2 : n ≤ hi
    · go_enter Try.func41, Try.ntmps41
      go_wp2
      go_ret
      exact ⟨ret_bool (by simp; omega), rfl⟩
    · go_enter Try.func41, Try.ntmps41
      go_wp2
      go_ret
      exact ⟨ret_bool (by simp; omega), rfl⟩
  · go_enter Try.func41, Try.ntmps41
    go_wp2
    go_ret
    exact ⟨ret_bool (by simp; omega), rfl⟩
theorem inRange_yes (n lo hi : Int) (w : World) (h1 : lo ≤ n) (h2 : n ≤ hi) : Calls Try.prog 41 #[.int .i64 n, .int .i64 lo, .int .i64 hi] w fun e w' => e = .returned (.bool true) ∧ w = w' :=
  (inRange_c n lo hi w).mono fun e w' ⟨he, hw⟩ => ⟨by rw [he, decide_eq_true ⟨h1, h2⟩], hw.symm⟩
theorem inRange_no (n lo hi : Int) (w : World) (h : ¬ (lo ≤ n ∧ n ≤ hi)) : Calls Try.prog 41 #[.int .i64 n, .int .i64 lo, .int .i64 hi] w fun e w' => e = .returned (.bool false) ∧ w = w' :=
  (inRange_c n lo hi w).mono fun e w' ⟨he, hw⟩ => ⟨by rw [he, decide_eq_false h], hw.symm⟩
theorem validBoard_yes (bc br : Int) (w : World) (h : Brd bc br) : Calls Try.prog 40 #[.int .i64 bc, .int .i64 br] w fun e w' => e = .returned (.bool true) ∧ w = w' := by
  obtain ⟨h1, h2, h3, h4⟩ := h
  go_enter Try.func40, Try.ntmps40
  go_wp2_with fail
  refine (inRange_yes bc 1 5 _ h1 h2).mono ?_
  rintro e w' ⟨rfl, rfl⟩
  go_wp2_with fail
  refine (inRange_yes br 1 5 _ h3 h4).mono ?_
  rintro e w' ⟨rfl, rfl⟩
  go_wp2_with fail
  go_ret
  exact ⟨rfl, rfl⟩
theorem validBoard_no (bc br : Int) (w : World) (h : ¬ Brd bc br) : Calls Try.prog 40 #[.int .i64 bc, .int .i64 br] w fun e w' => e = .returned (.bool false) ∧ w = w' := by
  unfold Brd at h
  by_cases h1 : 1 ≤ bc ∧ bc ≤ 5
  · have h2 : ¬ (1 ≤ br ∧ br ≤ 5) := by omega
    obtain ⟨h1, h1'⟩ := h1
    go_enter Try.func40, Try.ntmps40
    go_wp2_with fail
    refine (inRange_yes bc 1 5 _ h1 h1').mono ?_
    rintro e w' ⟨rfl, rfl⟩
    go_wp2_with fail
    refine (inRange_no br 1 5 _ h2).mono ?_
    rintro e w' ⟨rfl, rfl⟩
    go_wp2_with fail
    go_ret
    exact ⟨rfl, rfl⟩
  · clear h
    go_enter Try.func40, Try.ntmps40
    go_wp2_with fail
    refine (inRange_no bc 1 5 _ h1).mono ?_
    rintro e w' ⟨rfl, rfl⟩
    go_wp2_with fail
    go_ret
    exact ⟨rfl, rfl⟩

theorem mem_step {l : List Int} {k : Nat} {x : Int} (hk : k < l.length) (h : (l.take k).contains x = false) (hx : (l[k]?.getD 0 == x) = false) : (l.take (k + 1)).contains x = false := by
  rw [take_snoc l k hk, List.contains_eq_mem, decide_eq_false_iff_not, List.mem_append]
  rw [List.contains_eq_mem, decide_eq_false_iff_not] at h
  rintro (h' | h')
  · exact h h'
  · simp only [List.mem_singleton] at h'
    subst h'
    simp at hx
theorem mem_hit {l : List Int} {k : Nat} {x : Int} (hk : k < l.length) (hx : (l[k]?.getD 0 == x) = true) : l.contains x = true := by
  simp only [beq_iff_eq, List.getElem?_eq_getElem hk, Option.getD_some] at hx
  rw [List.contains_iff_mem, ← hx]
  exact List.getElem_mem hk

set_option maxHeartbeats 400000 in
theorem isIn_c (A : Option Addr) (l : List Int) (c : Nat) (x : Int) (w : World) (hr : Row w A (ints l)) (hm : l.length ≤ maxLen) :
    Calls Try.prog 23 #[.slice A l.length c, .int .i64 x] w (Plain (.bool (decide (x ∈ l))) w) := by
  unfold maxLen at hm
  go_enter Try.func23, Try.ntmps23
  go_wp2
  go_loop [5] (fun i => ∃ k : Nat, k ≤ l.length ∧ i = .int .i64 k ∧ Hid ((l.take k).contains x = false)) (fun i => l.length - (intOf i).toNat)
  case atStart => exact ⟨0, Nat.zero_le _, rfl, rfl⟩
  case round =>
    obtain ⟨k, hk, rfl, he⟩ := hrel
    by_cases hlt : k < l.length
    · obtain ⟨ad, rfl, hca⟩ := hr.int hlt
      obtain ⟨y, hy⟩ : ∃ y, l[k]?.getD 0 = y := ⟨_, rfl⟩
      rw [hy] at hca
      have Y := hide hy
      clear hy
      cases hb : (y == x) with
      | true =>
        go_wp2
        go_ret
        exact ⟨ret_bool (by rw [← List.contains_eq_mem]; exact (mem_hit hlt (by rw [Y.out]; exact hb)).symm), Below.refl _ _⟩
      | false =>
        go_wp2
        exact ⟨⟨k + 1, hlt, rfl, mem_step hlt he.out (by rw [Y.out]; exact hb)⟩, by simp [intOf]; omega⟩
    · have hk2 : Hid (k = l.length) := hide (by omega)
      go_wp2
      go_ret
      exact ⟨ret_bool (by have e := he.out; rw [hk2.out, List.take_of_length_le (Nat.le_refl _)] at e; rw [← List.contains_eq_mem]; exact e.symm), Below.refl _ _⟩

/-- The model's steps: rows of two numbers, in the blocks gs. -/
def Inner (w : World) : List Nat → List (Int × Int) → Prop
  | [], [] => True
  | g :: gs, p :: ss => (w.cell? ⟨g, 0, none⟩ = some (.int .i64 p.1) ∧ w.cell? ⟨g, 1, none⟩ = some (.int .i64 p.2)) ∧ Inner w gs ss
  | _, _ => False
def rowsOf (gs : List Nat) : List Value := gs.map fun g => .slice (some ⟨g, 0, none⟩) 2 2
def StepRows (w : World) (gg : Nat) (ss : List (Int × Int)) : Prop := ∃ gs, Inner w gs ss ∧ Row w (some ⟨gg, 0, none⟩) (rowsOf gs)
theorem Inner.then {w w' : World} {gs : List Nat} {ss : List (Int × Int)} (h : Inner w gs ss) (hb : Below w.heap.size w w') : Inner w' gs ss := by
  induction gs generalizing ss with
  | nil =>
    cases ss with
    | nil => trivial
    | cons => exact absurd h (by simp [Inner])
  | cons g gs ih =>
    cases ss with
    | nil => exact h
    | cons p ss =>
      obtain ⟨⟨a, b⟩, c⟩ := h
      exact ⟨⟨(hb.cell (World.block_lt_of_cell? _ _ a)).trans a, (hb.cell (World.block_lt_of_cell? _ _ b)).trans b⟩, ih c⟩
theorem Inner.append {w : World} {gs gs' : List Nat} {ss ss' : List (Int × Int)} (h : Inner w gs ss) (h' : Inner w gs' ss') : Inner w (gs ++ gs') (ss ++ ss') := by
  induction gs generalizing ss with
  | nil => cases ss with | nil => exact h' | cons => exact absurd h (by simp [Inner])
  | cons g gs ih =>
    cases ss with
    | nil => exact absurd h (by simp [Inner])
    | cons p ss => exact ⟨h.1, ih h.2⟩
theorem Inner.length {w : World} {gs : List Nat} {ss : List (Int × Int)} (h : Inner w gs ss) : gs.length = ss.length := by
  induction gs generalizing ss with
  | nil => cases ss with | nil => rfl | cons => exact absurd h (by simp [Inner])
  | cons g gs ih =>
    cases ss with
    | nil => exact absurd h (by simp [Inner])
    | cons p ss => simp [ih h.2]
theorem Inner.at_ {w : World} {gs : List Nat} {ss : List (Int × Int)} (h : Inner w gs ss) {i : Nat} (hi : i < ss.length) (hg : i < gs.length) : w.cell? ⟨gs[i], 0, none⟩ = some (.int .i64 ss[i].1) ∧ w.cell? ⟨gs[i], 1, none⟩ = some (.int .i64 ss[i].2) := by
  induction gs generalizing ss i with
  | nil => simp at hg
  | cons g gs ih =>
    cases ss with
    | nil => simp at hi
    | cons p ss =>
      cases i with
      | zero => exact h.1
      | succ i => exact ih h.2 (by simpa using hi) (by simpa using hg)
theorem one_rows (gs : List Nat) : ∀ u ∈ rowsOf gs, u.oneCell' = true := by
  intro u hu
  simp only [rowsOf, List.mem_map] at hu
  obtain ⟨g, _, rfl⟩ := hu
  rfl
theorem StepRows.then {w w' : World} {gg : Nat} {ss : List (Int × Int)} (h : StepRows w gg ss) (hb : Below w.heap.size w w') : StepRows w' gg ss := by
  obtain ⟨gs, h1, h2⟩ := h
  exact ⟨gs, h1.then hb, h2.below hb⟩
theorem StepRows.at_ {w : World} {gg : Nat} {ss : List (Int × Int)} (h : StepRows w gg ss) {i : Nat} (hi : i < ss.length) :
    ∃ g, w.cell? ⟨gg, i, none⟩ = some (.slice (some ⟨g, 0, none⟩) 2 2) ∧ w.cell? ⟨g, 0, none⟩ = some (.int .i64 ss[i].1) ∧ w.cell? ⟨g, 1, none⟩ = some (.int .i64 ss[i].2) := by
  obtain ⟨gs, h1, h2⟩ := h
  have hg : i < gs.length := by rw [h1.length]; exact hi
  obtain ⟨_, ⟨rfl⟩, hc⟩ := h2 i (by simpa [rowsOf] using hg)
  rw [show (⟨gg, 0, none⟩ : Addr).add i = ⟨gg, i, none⟩ from by unfold Addr.add; split <;> simp_all] at hc
  exact ⟨gs[i], by rw [hc]; simp [rowsOf], h1.at_ hi hg⟩
def StepsEnd (s : List UInt8) (w : World) (e : Ending) (w' : World) : Prop :=
  match kindL s with
  | some (ss, far) => ∃ gg c, e = .returned (.tuple #[.slice (some ⟨gg, 0, none⟩) ss.length c, .bool far]) ∧ StepRows w' gg ss ∧ Below w.heap.size w w'
  | none => e = .returned (.tuple #[.slice none 0 0, .bool false]) ∧ Below w.heap.size w w'
theorem elem_row : Elem Try.prog 27 1 24 := Elem.of (z := .slice none 0 0) (by kernel_rfl) rfl (by omega)
theorem lay4 (w : World) (n : Nat) (hn : n = w.heap.size) (a0 b0 a1 b1 a2 b2 a3 b3 : Int) :
    StepRows (((((w.alloc (.cells #[.int .i64 a0, .int .i64 b0] 3)).alloc (.cells #[.int .i64 a1, .int .i64 b1] 3)).alloc (.cells #[.int .i64 a2, .int .i64 b2] 3)).alloc (.cells #[.int .i64 a3, .int .i64 b3] 3)).alloc
      (.cells #[.slice (some ⟨n, 0, none⟩) 2 2, .slice (some ⟨n + 1, 0, none⟩) 2 2, .slice (some ⟨n + 1 + 1, 0, none⟩) 2 2, .slice (some ⟨n + 1 + 1 + 1, 0, none⟩) 2 2] 27)) (n + 1 + 1 + 1 + 1) [(a0, b0), (a1, b1), (a2, b2), (a3, b3)] := by
  subst hn
  have b0' := ((((Box.new w 3 #[.int .i64 a0, .int .i64 b0]).alloc (.cells #[.int .i64 a1, .int .i64 b1] 3)).alloc (.cells #[.int .i64 a2, .int .i64 b2] 3)).alloc (.cells #[.int .i64 a3, .int .i64 b3] 3)).alloc (.cells #[.slice (some ⟨w.heap.size, 0, none⟩) 2 2, .slice (some ⟨w.heap.size + 1, 0, none⟩) 2 2, .slice (some ⟨w.heap.size + 1 + 1, 0, none⟩) 2 2, .slice (some ⟨w.heap.size + 1 + 1 + 1, 0, none⟩) 2 2] 27)
  have b1' := (((Box.new (w.alloc (.cells #[.int .i64 a0, .int .i64 b0] 3)) 3 #[.int .i64 a1, .int .i64 b1]).alloc (.cells #[.int .i64 a2, .int .i64 b2] 3)).alloc (.cells #[.int .i64 a3, .int .i64 b3] 3)).alloc (.cells #[.slice (some ⟨w.heap.size, 0, none⟩) 2 2, .slice (some ⟨w.heap.size + 1, 0, none⟩) 2 2, .slice (some ⟨w.heap.size + 1 + 1, 0, none⟩) 2 2, .slice (some ⟨w.heap.size + 1 + 1 + 1, 0, none⟩) 2 2] 27)
  have b2' := ((Box.new ((w.alloc (.cells #[.int .i64 a0, .int .i64 b0] 3)).alloc (.cells #[.int .i64 a1, .int .i64 b1] 3)) 3 #[.int .i64 a2, .int .i64 b2]).alloc (.cells #[.int .i64 a3, .int .i64 b3] 3)).alloc (.cells #[.slice (some ⟨w.heap.size, 0, none⟩) 2 2, .slice (some ⟨w.heap.size + 1, 0, none⟩) 2 2, .slice (some ⟨w.heap.size + 1 + 1, 0, none⟩) 2 2, .slice (some ⟨w.heap.size + 1 + 1 + 1, 0, none⟩) 2 2] 27)
  have b3' := (Box.new (((w.alloc (.cells #[.int .i64 a0, .int .i64 b0] 3)).alloc (.cells #[.int .i64 a1, .int .i64 b1] 3)).alloc (.cells #[.int .i64 a2, .int .i64 b2] 3)) 3 #[.int .i64 a3, .int .i64 b3]).alloc (.cells #[.slice (some ⟨w.heap.size, 0, none⟩) 2 2, .slice (some ⟨w.heap.size + 1, 0, none⟩) 2 2, .slice (some ⟨w.heap.size + 1 + 1, 0, none⟩) 2 2, .slice (some ⟨w.heap.size + 1 + 1 + 1, 0, none⟩) 2 2] 27)
  simp only [World.size_alloc] at b1' b2' b3'
  exact ⟨[w.heap.size, w.heap.size + 1, w.heap.size + 1 + 1, w.heap.size + 1 + 1 + 1], ⟨⟨b0'.cell 0, b0'.cell 1⟩, ⟨b1'.cell 0, b1'.cell 1⟩, ⟨b2'.cell 0, b2'.cell 1⟩, ⟨b3'.cell 0, b3'.cell 1⟩, trivial⟩, row_new _ _ _ (by simp)⟩
theorem lay8 (w : World) (n : Nat) (hn : n = w.heap.size) :
    StepRows (((((((((w.alloc (.cells #[.int .i64 (-2), .int .i64 (-1)] 3)).alloc (.cells #[.int .i64 (-2), .int .i64 1] 3)).alloc (.cells #[.int .i64 (-1), .int .i64 (-2)] 3)).alloc (.cells #[.int .i64 (-1), .int .i64 2] 3)).alloc (.cells #[.int .i64 1, .int .i64 (-2)] 3)).alloc (.cells #[.int .i64 1, .int .i64 2] 3)).alloc (.cells #[.int .i64 2, .int .i64 (-1)] 3)).alloc (.cells #[.int .i64 2, .int .i64 1] 3)).alloc (.cells #[.slice (some ⟨n, 0, none⟩) 2 2, .slice (some ⟨n + 1, 0, none⟩) 2 2, .slice (some ⟨n + 1 + 1, 0, none⟩) 2 2, .slice (some ⟨n + 1 + 1 + 1, 0, none⟩) 2 2, .slice (some ⟨n + 1 + 1 + 1 + 1, 0, none⟩) 2 2, .slice (some ⟨n + 1 + 1 + 1 + 1 + 1, 0, none⟩) 2 2, .slice (some ⟨n + 1 + 1 + 1 + 1 + 1 + 1, 0, none⟩) 2 2, .slice (some ⟨n + 1 + 1 + 1 + 1 + 1 + 1 + 1, 0, none⟩) 2 2] 27)) (n + 1 + 1 + 1 + 1 + 1 + 1 + 1 + 1) knights := by
  subst hn
  have b0' := ((((((((Box.new w 3 #[.int .i64 (-2), .int .i64 (-1)]).alloc (.cells #[.int .i64 (-2), .int .i64 1] 3)).alloc (.cells #[.int .i64 (-1), .int .i64 (-2)] 3)).alloc (.cells #[.int .i64 (-1), .int .i64 2] 3)).alloc (.cells #[.int .i64 1, .int .i64 (-2)] 3)).alloc (.cells #[.int .i64 1, .int .i64 2] 3)).alloc (.cells #[.int .i64 2, .int .i64 (-1)] 3)).alloc (.cells #[.int .i64 2, .int .i64 1] 3)).alloc (.cells #[.slice (some ⟨w.heap.size, 0, none⟩) 2 2, .slice (some ⟨w.heap.size + 1, 0, none⟩) 2 2, .slice (some ⟨w.heap.size + 1 + 1, 0, none⟩) 2 2, .slice (some ⟨w.heap.size + 1 + 1 + 1, 0, none⟩) 2 2, .slice (some ⟨w.heap.size + 1 + 1 + 1 + 1, 0, none⟩) 2 2, .slice (some ⟨w.heap.size + 1 + 1 + 1 + 1 + 1, 0, none⟩) 2 2, .slice (some ⟨w.heap.size + 1 + 1 + 1 + 1 + 1 + 1, 0, none⟩) 2 2, .slice (some ⟨w.heap.size + 1 + 1 + 1 + 1 + 1 + 1 + 1, 0, none⟩) 2 2] 27)
  have b1' := (((((((Box.new (w.alloc (.cells #[.int .i64 (-2), .int .i64 (-1)] 3)) 3 #[.int .i64 (-2), .int .i64 1]).alloc (.cells #[.int .i64 (-1), .int .i64 (-2)] 3)).alloc (.cells #[.int .i64 (-1), .int .i64 2] 3)).alloc (.cells #[.int .i64 1, .int .i64 (-2)] 3)).alloc (.cells #[.int .i64 1, .int .i64 2] 3)).alloc (.cells #[.int .i64 2, .int .i64 (-1)] 3)).alloc (.cells #[.int .i64 2, .int .i64 1] 3)).alloc (.cells #[.slice (some ⟨w.heap.size, 0, none⟩) 2 2, .slice (some ⟨w.heap.size + 1, 0, none⟩) 2 2, .slice (some ⟨w.heap.size + 1 + 1, 0, none⟩) 2 2, .slice (some ⟨w.heap.size + 1 + 1 + 1, 0, none⟩) 2 2, .slice (some ⟨w.heap.size + 1 + 1 + 1 + 1, 0, none⟩) 2 2, .slice (some ⟨w.heap.size + 1 + 1 + 1 + 1 + 1, 0, none⟩) 2 2, .slice (some ⟨w.heap.size + 1 + 1 + 1 + 1 + 1 + 1, 0, none⟩) 2 2, .slice (some ⟨w.heap.size + 1 + 1 + 1 + 1 + 1 + 1 + 1, 0, none⟩) 2 2] 27)
  have b2' := ((((((Box.new ((w.alloc (.cells #[.int .i64 (-2), .int .i64 (-1)] 3)).alloc (.cells #[.int .i64 (-2), .int .i64 1] 3)) 3 #[.int .i64 (-1), .int .i64 (-2)]).alloc (.cells #[.int .i64 (-1), .int .i64 2] 3)).alloc (.cells #[.int .i64 1, .int .i64 (-2)] 3)).alloc (.cells #[.int .i64 1, .int .i64 2] 3)).alloc (.cells #[.int .i64 2, .int .i64 (-1)] 3)).alloc (.cells #[.int .i64 2, .int .i64 1] 3)).alloc (.cells #[.slice (some ⟨w.heap.size, 0, none⟩) 2 2, .slice (some ⟨w.heap.size + 1, 0, none⟩) 2 2, .slice (some ⟨w.heap.size + 1 + 1, 0, none⟩) 2 2, .slice (some ⟨w.heap.size + 1 + 1 + 1, 0, none⟩) 2 2, .slice (some ⟨w.heap.size + 1 + 1 + 1 + 1, 0, none⟩) 2 2, .slice (some ⟨w.heap.size + 1 + 1 + 1 + 1 + 1, 0, none⟩) 2 2, .slice (some ⟨w.heap.size + 1 + 1 + 1 + 1 + 1 + 1, 0, none⟩) 2 2, .slice (some ⟨w.heap.size + 1 + 1 + 1 + 1 + 1 + 1 + 1, 0, none⟩) 2 2] 27)
  have b3' := (((((Box.new (((w.alloc (.cells #[.int .i64 (-2), .int .i64 (-1)] 3)).alloc (.cells #[.int .i64 (-2), .int .i64 1] 3)).alloc (.cells #[.int .i64 (-1), .int .i64 (-2)] 3)) 3 #[.int .i64 (-1), .int .i64 2]).alloc (.cells #[.int .i64 1, .int .i64 (-2)] 3)).alloc (.cells #[.int .i64 1, .int .i64 2] 3)).alloc (.cells #[.int .i64 2, .int .i64 (-1)] 3)).alloc (.cells #[.int .i64 2, .int .i64 1] 3)).alloc (.cells #[.slice (some ⟨w.heap.size, 0, none⟩) 2 2, .slice (some ⟨w.heap.size + 1, 0, none⟩) 2 2, .slice (some ⟨w.heap.size + 1 + 1, 0, none⟩) 2 2, .slice (some ⟨w.heap.size + 1 + 1 + 1, 0, none⟩) 2 2, .slice (some ⟨w.heap.size + 1 + 1 + 1 + 1, 0, none⟩) 2 2, .slice (some ⟨w.heap.size + 1 + 1 + 1 + 1 + 1, 0, none⟩) 2 2, .slice (some ⟨w.heap.size + 1 + 1 + 1 + 1 + 1 + 1, 0, none⟩) 2 2, .slice (some ⟨w.heap.size + 1 + 1 + 1 + 1 + 1 + 1 + 1, 0, none⟩) 2 2] 27)
  have b4' := ((((Box.new ((((w.alloc (.cells #[.int .i64 (-2), .int .i64 (-1)] 3)).alloc (.cells #[.int .i64 (-2), .int .i64 1] 3)).alloc (.cells #[.int .i64 (-1), .int .i64 (-2)] 3)).alloc (.cells #[.int .i64 (-1), .int .i64 2] 3)) 3 #[.int .i64 1, .int .i64 (-2)]).alloc (.cells #[.int .i64 1, .int .i64 2] 3)).alloc (.cells #[.int .i64 2, .int .i64 (-1)] 3)).alloc (.cells #[.int .i64 2, .int .i64 1] 3)).alloc (.cells #[.slice (some ⟨w.heap.size, 0, none⟩) 2 2, .slice (some ⟨w.heap.size + 1, 0, none⟩) 2 2, .slice (some ⟨w.heap.size + 1 + 1, 0, none⟩) 2 2, .slice (some ⟨w.heap.size + 1 + 1 + 1, 0, none⟩) 2 2, .slice (some ⟨w.heap.size + 1 + 1 + 1 + 1, 0, none⟩) 2 2, .slice (some ⟨w.heap.size + 1 + 1 + 1 + 1 + 1, 0, none⟩) 2 2, .slice (some ⟨w.heap.size + 1 + 1 + 1 + 1 + 1 + 1, 0, none⟩) 2 2, .slice (some ⟨w.heap.size + 1 + 1 + 1 + 1 + 1 + 1 + 1, 0, none⟩) 2 2] 27)
  have b5' := (((Box.new (((((w.alloc (.cells #[.int .i64 (-2), .int .i64 (-1)] 3)).alloc (.cells #[.int .i64 (-2), .int .i64 1] 3)).alloc (.cells #[.int .i64 (-1), .int .i64 (-2)] 3)).alloc (.cells #[.int .i64 (-1), .int .i64 2] 3)).alloc (.cells #[.int .i64 1, .int .i64 (-2)] 3)) 3 #[.int .i64 1, .int .i64 2]).alloc (.cells #[.int .i64 2, .int .i64 (-1)] 3)).alloc (.cells #[.int .i64 2, .int .i64 1] 3)).alloc (.cells #[.slice (some ⟨w.heap.size, 0, none⟩) 2 2, .slice (some ⟨w.heap.size + 1, 0, none⟩) 2 2, .slice (some ⟨w.heap.size + 1 + 1, 0, none⟩) 2 2, .slice (some ⟨w.heap.size + 1 + 1 + 1, 0, none⟩) 2 2, .slice (some ⟨w.heap.size + 1 + 1 + 1 + 1, 0, none⟩) 2 2, .slice (some ⟨w.heap.size + 1 + 1 + 1 + 1 + 1, 0, none⟩) 2 2, .slice (some ⟨w.heap.size + 1 + 1 + 1 + 1 + 1 + 1, 0, none⟩) 2 2, .slice (some ⟨w.heap.size + 1 + 1 + 1 + 1 + 1 + 1 + 1, 0, none⟩) 2 2] 27)
  have b6' := ((Box.new ((((((w.alloc (.cells #[.int .i64 (-2), .int .i64 (-1)] 3)).alloc (.cells #[.int .i64 (-2), .int .i64 1] 3)).alloc (.cells #[.int .i64 (-1), .int .i64 (-2)] 3)).alloc (.cells #[.int .i64 (-1), .int .i64 2] 3)).alloc (.cells #[.int .i64 1, .int .i64 (-2)] 3)).alloc (.cells #[.int .i64 1, .int .i64 2] 3)) 3 #[.int .i64 2, .int .i64 (-1)]).alloc (.cells #[.int .i64 2, .int .i64 1] 3)).alloc (.cells #[.slice (some ⟨w.heap.size, 0, none⟩) 2 2, .slice (some ⟨w.heap.size + 1, 0, none⟩) 2 2, .slice (some ⟨w.heap.size + 1 + 1, 0, none⟩) 2 2, .slice (some ⟨w.heap.size + 1 + 1 + 1, 0, none⟩) 2 2, .slice (some ⟨w.heap.size + 1 + 1 + 1 + 1, 0, none⟩) 2 2, .slice (some ⟨w.heap.size + 1 + 1 + 1 + 1 + 1, 0, none⟩) 2 2, .slice (some ⟨w.heap.size + 1 + 1 + 1 + 1 + 1 + 1, 0, none⟩) 2 2, .slice (some ⟨w.heap.size + 1 + 1 + 1 + 1 + 1 + 1 + 1, 0, none⟩) 2 2] 27)
  have b7' := (Box.new (((((((w.alloc (.cells #[.int .i64 (-2), .int .i64 (-1)] 3)).alloc (.cells #[.int .i64 (-2), .int .i64 1] 3)).alloc (.cells #[.int .i64 (-1), .int .i64 (-2)] 3)).alloc (.cells #[.int .i64 (-1), .int .i64 2] 3)).alloc (.cells #[.int .i64 1, .int .i64 (-2)] 3)).alloc (.cells #[.int .i64 1, .int .i64 2] 3)).alloc (.cells #[.int .i64 2, .int .i64 (-1)] 3)) 3 #[.int .i64 2, .int .i64 1]).alloc (.cells #[.slice (some ⟨w.heap.size, 0, none⟩) 2 2, .slice (some ⟨w.heap.size + 1, 0, none⟩) 2 2, .slice (some ⟨w.heap.size + 1 + 1, 0, none⟩) 2 2, .slice (some ⟨w.heap.size + 1 + 1 + 1, 0, none⟩) 2 2, .slice (some ⟨w.heap.size + 1 + 1 + 1 + 1, 0, none⟩) 2 2, .slice (some ⟨w.heap.size + 1 + 1 + 1 + 1 + 1, 0, none⟩) 2 2, .slice (some ⟨w.heap.size + 1 + 1 + 1 + 1 + 1 + 1, 0, none⟩) 2 2, .slice (some ⟨w.heap.size + 1 + 1 + 1 + 1 + 1 + 1 + 1, 0, none⟩) 2 2] 27)
  simp only [World.size_alloc] at b1' b2' b3' b4' b5' b6' b7'
  exact ⟨[w.heap.size, w.heap.size + 1, w.heap.size + 1 + 1, w.heap.size + 1 + 1 + 1, w.heap.size + 1 + 1 + 1 + 1, w.heap.size + 1 + 1 + 1 + 1 + 1, w.heap.size + 1 + 1 + 1 + 1 + 1 + 1, w.heap.size + 1 + 1 + 1 + 1 + 1 + 1 + 1], ⟨⟨b0'.cell 0, b0'.cell 1⟩, ⟨b1'.cell 0, b1'.cell 1⟩, ⟨b2'.cell 0, b2'.cell 1⟩, ⟨b3'.cell 0, b3'.cell 1⟩, ⟨b4'.cell 0, b4'.cell 1⟩, ⟨b5'.cell 0, b5'.cell 1⟩, ⟨b6'.cell 0, b6'.cell 1⟩, ⟨b7'.cell 0, b7'.cell 1⟩, trivial⟩, row_new _ _ _ (by simp)⟩
end Go.Proofs.Ytgbbmnnpphkkbaa
