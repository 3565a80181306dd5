
/-
  What the document says of covers, purely: colours, holes, rows of two.
-/
import Derived.Test.YtnikgnicjbcbmabDoorTileF
import Derived.Test.YtnikgnicjbcbmabDoorTileD
namespace Go.Proofs.YtnikgnicjbcbmabDoor
set_option linter.unusedVariables false

def colG (w i : Nat) : Bool := (i / w + i % w) % 2 == 0
def colOk (w h : Nat) : Bool := (List.range (w * h)).all (fun i => (List.range (w * h)).all fun j => !adjG w i j || (colG w j == !colG w i)) && ((w * h) % 2 == 1 || freeN (colG w) (fun _ => false) (w * h) == freeN (fun i => !colG w i) (fun _ => false) (w * h))
theorem col_ok : ∀ a : Fin 5, ∀ b : Fin 5, colOk (a.val + 1) (b.val + 1) = true := by decide +kernel
theorem col_adj {w h : Nat} (hw : 1 ≤ w ∧ w ≤ 5) (hh : 1 ≤ h ∧ h ≤ 5) : ∀ i j, i < w * h → j < w * h → adjG w i j = true → colG w j = !colG w i := fun i j hi hj ha => by
  have h0 := col_ok ⟨w - 1, by omega⟩ ⟨h - 1, by omega⟩
  simp only [show w - 1 + 1 = w by omega, show h - 1 + 1 = h by omega] at h0
  unfold colOk at h0
  rw [Bool.and_eq_true] at h0
  have h1 := List.all_eq_true.1 (List.all_eq_true.1 h0.1 i (List.mem_range.2 hi)) j (List.mem_range.2 hj)
  rw [ha] at h1
  simpa using h1
theorem col_half {w h : Nat} (hw : 1 ≤ w ∧ w ≤ 5) (hh : 1 ≤ h ∧ h ≤ 5) (he : (w * h) % 2 = 0) : freeN (colG w) (fun _ => false) (w * h) = freeN (fun i => !colG w i) (fun _ => false) (w * h) := by
  have h0 := col_ok ⟨w - 1, by omega⟩ ⟨h - 1, by omega⟩
  simp only [show w - 1 + 1 = w by omega, show h - 1 + 1 = h by omega] at h0
  unfold colOk at h0
  rw [Bool.and_eq_true, Bool.or_eq_true] at h0
  rcases h0.2 with h1 | h1
  · rw [beq_iff_eq] at h1; omega
  · exact beq_iff_eq.1 h1
theorem free_split (col c : Nat → Bool) (n : Nat) : freeN (fun _ => true) c n = freeN col c n + freeN (fun i => !col i) c n := by
  unfold freeN
  rw [← sumN_add]
  exact sumN_congr n fun i _ => by
    show (if (true && !c i) = true then 1 else 0) = (if (col i && !c i) = true then 1 else 0) + if (!col i && !c i) = true then 1 else 0
    cases col i <;> cases c i <;> rfl
/-- Covers by cells. -/
theorem tile_is {w h : Nat} (hw : 1 ≤ w ∧ w ≤ 5) (g : Nat → Bool) : ways (adjG w) (w * h) (w * h) g = tileT w (w * h) (w * h) g := tile_ways rfl hw.1 _ g (Nat.le_refl _) (fun i hi => absurd hi (by omega))
/-- An odd number of cells that are left. -/
theorem tile_odd {w h : Nat} (hw : 1 ≤ w ∧ w ≤ 5) (hh : 1 ≤ h ∧ h ≤ 5) {g : Nat → Bool} (ho : freeN (fun _ => true) g (w * h) % 2 = 1) : tileT w (w * h) (w * h) g = 0 := by
  rw [← tile_is hw]
  refine ways_colours (col := colG w) (col_adj hw hh) _ g (Nat.le_refl _) (fun i hi => absurd hi (by omega)) (fun e => ?_)
  rw [free_split (colG w), e] at ho
  omega
/-- Two holes of one colour. -/
theorem tile_two {w h : Nat} (hw : 1 ≤ w ∧ w ≤ 5) (hh : 1 ≤ h ∧ h ≤ 5) (he : (w * h) % 2 = 0) {x y : Nat} (hx : x < w * h) (hy : y < w * h) (hne : x ≠ y) (hc : colG w x = colG w y) : tileT w (w * h) (w * h) (cov (fun _ => false) x y) = 0 := by
  rw [← tile_is hw]
  refine ways_colours (col := colG w) (col_adj hw hh) _ _ (Nat.le_refl _) (fun i hi => absurd hi (by omega)) (fun e => ?_)
  have h1 := free_cov (col := colG w) (c := fun _ => false) hx hy hne rfl rfl
  have h2 := free_cov (col := fun i => !colG w i) (c := fun _ => false) hx hy hne rfl rfl
  have h3 := col_half hw hh he
  rw [e] at h1
  rw [h1, h2, hc] at h3
  revert h3
  cases colG w y <;> simp
/-- Boards that are turned. -/
theorem tile_turn {w h : Nat} (hw : 1 ≤ w ∧ w ≤ 5) (hh : 1 ≤ h ∧ h ≤ 5) {g g' : Nat → Bool} (hg : ∀ i, i < w * h → g' (turnC w h i) = g i) : tileT h (h * w) (h * w) g' = tileT w (w * h) (w * h) g := by
  rw [← tile_is hw, ← tile_is hh, Nat.mul_comm h w]
  exact (ways_turn hw hh hg).symm
/-- With two neighbours as holes there are no more ways. -/
theorem tile_less {w h : Nat} (hw : 1 ≤ w ∧ w ≤ 5) {g : Nat → Bool} {a b : Nat} (ha : a < w * h) (hb : b < w * h) (hab : a ≠ b) (ga : g a = false) (gb : g b = false) (hadj : adjG w a b = true) : tileT w (w * h) (w * h) (cov g a b) ≤ tileT w (w * h) (w * h) g := by
  rw [← tile_is hw, ← tile_is hw]
  refine ways_less (fun i j => adjG_sym w i j) (Nat.le_refl _) (fun i hi => absurd hi (by omega)) ha hb ga ?_
  unfold okP
  rw [hadj, gb, beq_eq_false_iff_ne.2 (fun e => hab e.symm)]
  rfl
/-- Rows of two, and of one. -/
def fibP : Nat → Nat × Nat
  | 0 => (1, 1)
  | n + 1 => ((fibP n).2, (fibP n).1 + (fibP n).2)
theorem domino_ok : ∀ a : Fin 5, rowsT (a.val + 1) 2 (fun _ => false) 2 0 = (fibP a.val).2 ∧ rowsT (a.val + 1) 1 (fun _ => false) 1 0 = 1 - (a.val + 1) % 2 ∧ (fibP a.val).2 ≤ 8 := by decide +kernel
/-- How many ways at most. -/
theorem tile_bd (w n : Nat) : ∀ k c, tileT w n k c ≤ 2 ^ k
  | 0, _ => Nat.le_refl _
  | k + 1, c => by
    rw [tile_step, Nat.pow_succ]
    have h1 := tile_bd w n k c
    have h2 := tile_bd w n k (cov c (n - (k + 1)) (n - (k + 1) + 1))
    have h3 := tile_bd w n k (cov c (n - (k + 1)) (n - (k + 1) + w))
    split
    · omega
    · split <;> split <;> omega

/-- The cells of a list. -/
def inL (hs : List Int) : Nat → Bool := fun i => hs.contains (i : Int)
theorem free_all (n : Nat) : freeN (fun _ => true) (fun _ => false) n = n := by
  unfold freeN
  induction n with
  | zero => rfl
  | succ n ih => simp only [sumN]; rw [ih]; simp
theorem free_one {c : Nat → Bool} {n x : Nat} (hx : x < n) (fx : c x = false) : freeN (fun _ => true) c n = freeN (fun _ => true) (fun i => i == x || c i) n + 1 := by
  unfold freeN
  rw [sumN_out _ x n hx, sumN_out (fun i => if true && !(i == x || c i) then 1 else 0) x n hx, fx]
  simp only [beq_self_eq_true, Bool.true_or, Bool.not_true, Bool.and_false, Bool.false_eq_true, if_false, Bool.not_false, Bool.and_true, if_true]
  rw [Nat.add_comm, Nat.zero_add]
  congr 1
  exact sumN_congr n fun i _ => by
    by_cases e : i = x
    · rw [if_pos e, if_pos e]
    · rw [if_neg e, if_neg e, beq_eq_false_iff_ne.2 e]
      simp
theorem free_list {n : Nat} : ∀ hs : List Int, hs.Nodup → (∀ x ∈ hs, 0 ≤ x ∧ x < (n : Int)) → freeN (fun _ => true) (inL hs) n + hs.length = n
  | [], _, _ => by
    have : inL [] = fun _ => false := funext fun i => rfl
    rw [this, free_all]
    rfl
  | x :: hs, hd, hb => by
    have hd' := List.nodup_cons.1 hd
    obtain ⟨x0, x1⟩ := hb x (List.mem_cons_self)
    have ih := free_list hs hd'.2 (fun y hy => hb y (List.mem_cons_of_mem _ hy))
    obtain ⟨y, rfl⟩ := Int.eq_ofNat_of_zero_le x0
    have hf : inL hs y = false := by
      unfold inL
      rw [← Bool.not_eq_true, List.contains_iff_mem]
      exact hd'.1
    rw [free_one (n := n) (x := y) (by omega) hf] at ih
    have : inL ((y : Int) :: hs) = fun i => i == y || inL hs i := funext fun i => by
      unfold inL
      rw [List.contains_cons]
      congr 1
      by_cases e : i = y
      · subst e; simp
      · rw [beq_eq_false_iff_ne.2 e, beq_eq_false_iff_ne.2 (show (i : Int) ≠ (y : Int) by omega)]
    rw [this]
    simp only [List.length_cons]
    omega
end Go.Proofs.YtnikgnicjbcbmabDoor
