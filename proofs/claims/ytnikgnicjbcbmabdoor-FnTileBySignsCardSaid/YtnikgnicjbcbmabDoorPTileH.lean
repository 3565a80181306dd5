
/-
  Covers row by row as the program counts them, purely: the ways to cover a row with the next one.
-/
import Derived.Test.YtnikgnicjbcbmabDoorPTileA
import Derived.Test.YtnikgnicjbcbmabDoorTileR
import Derived.Test.YtnikgnicjbcbmabDoorTileL
namespace Go.Proofs.YtnikgnicjbcbmabDoor
set_option linter.unusedVariables false

/-- The first of five cells that is in the set. -/
def lowB (c : Nat) : Nat := if c.testBit 0 then 0 else if c.testBit 1 then 1 else if c.testBit 2 then 2 else if c.testBit 3 then 3 else 4
/-- For each way to cover the cells c of a row, which cells of the row below, of b, are covered with them. -/
def waysP : Nat → Nat → Nat → List Nat
  | 0, _, _ => [0]
  | f + 1, c, b => if c = 0 then [0] else
      (if b.testBit (lowB c) then (waysP f (dif c (2 ^ lowB c)) b).map (fun t => t ||| 2 ^ lowB c) else []) ++
      (if decide (lowB c + 1 < 5) && (dif c (2 ^ lowB c)).testBit (lowB c + 1) then waysP f (dif (dif c (2 ^ lowB c)) (2 ^ (lowB c + 1))) b else [])
theorem ways_step : ∀ c : Fin 32, ∀ b : Fin 32, c.val ≠ 0 → waysP 6 c.val b.val = (if b.val.testBit (lowB c.val) then (waysP 6 (dif c.val (2 ^ lowB c.val)) b.val).map (fun t => t ||| 2 ^ lowB c.val) else []) ++
      (if decide (lowB c.val + 1 < 5) && (dif c.val (2 ^ lowB c.val)).testBit (lowB c.val + 1) then waysP 6 (dif (dif c.val (2 ^ lowB c.val)) (2 ^ (lowB c.val + 1))) b.val else []) := by decide +kernel
theorem ways_zero (b : Nat) : waysP 6 0 b = [0] := rfl
theorem ways_in : ∀ c : Fin 32, ∀ b : Fin 32, (waysP 6 c.val b.val).length ≤ 8 ∧ ∀ t ∈ waysP 6 c.val b.val, t < 32 ∧ dif t b.val = 0 := by decide +kernel
theorem low_in : ∀ c : Fin 32, c.val ≠ 0 → lowB c.val < 5 ∧ c.val.testBit (lowB c.val) = true ∧ (∀ i : Fin 5, i.val < lowB c.val → c.val.testBit i.val = false) ∧ dif c.val (2 ^ lowB c.val) < c.val ∧ dif (dif c.val (2 ^ lowB c.val)) (2 ^ (lowB c.val + 1)) < c.val := by decide +kernel

def sprL (c w : Nat) : Nat → Nat → List Nat
  | 0, d => [d]
  | 1, d => if c.testBit (w - 1) then [d + 2 ^ (w - 1)] else [d]
  | j + 2, d => if c.testBit (w - (j + 2)) then sprL c w (j + 1) (d + 2 ^ (w - (j + 2))) ++ (if c.testBit (w - (j + 2) + 1) then sprL c w j d else []) else sprL c w (j + 1) d
/-- Which cells of the row are free: neither a hole nor covered; and no hole is covered. -/
structure FreeIs (w : Nat) (g : Nat → Bool) (s c : Nat) : Prop where
  bit : ∀ i, i < w → c.testBit i = (!g i && bitN s i == 0)
  good : ∀ i, i < w → g i = true → bitN s i = 0
theorem spr_list {w : Nat} {g : Nat → Bool} {s c : Nat} (h : FreeIs w g s c) (next : Nat → Nat) : ∀ (j d : Nat), j ≤ w → spr w g s next j d = ((sprL c w j d).map next).sum
  | 0, d, _ => by simp [spr, sprL]
  | 1, d, hj => by
    rw [spr_one]
    unfold sprL
    rw [h.bit (w - 1) (by omega)]
    cases hg : g (w - 1) with
    | true => rw [h.good _ (by omega) hg]; simp
    | false =>
      rcases bitN_two s (w - 1) with e | e
      · rw [e]; simp
      · rw [e]; simp
  | j + 2, d, hj => by
    have e1 := spr_list h next (j + 1)
    have e2 := spr_list h next j
    rw [spr_two]
    unfold sprL
    rw [h.bit (w - (j + 2)) (by omega), h.bit (w - (j + 2) + 1) (by omega)]
    cases hg : g (w - (j + 2)) with
    | true => rw [h.good _ (by omega) hg, e1 d (by omega)]; simp
    | false =>
      rcases bitN_two s (w - (j + 2)) with e | e
      · rw [e]
        have e1' := e1 (d + 2 ^ (w - (j + 2))) (by omega)
        have e2' := e2 d (by omega)
        cases hc2 : (!g (w - (j + 2) + 1) && bitN s (w - (j + 2) + 1) == 0) <;> simp [e1', e2']
      · rw [e, e1 _ (by omega)]
        simp
/-- The program's ways are those of the model whose cells of the next row are free. -/
def permOk (w : Nat) : Bool := (List.range (2 ^ w)).all fun c => (List.range (2 ^ w)).all fun b => (waysP 6 c b).isPerm ((sprL c w w 0).filter fun t => dif t b == 0) && (sprL c w w 0).all fun t => decide (t < 2 ^ w)
theorem perm_ok : ∀ w : Fin 5, permOk (w.val + 1) = true := by decide +kernel
theorem sum_filter {next : Nat → Nat} {p : Nat → Bool} : ∀ L : List Nat, (∀ t ∈ L, p t = false → next t = 0) → (L.map next).sum = ((L.filter p).map next).sum
  | [], _ => rfl
  | t :: L, h => by
    have ih := sum_filter L (fun u hu => h u (List.mem_cons_of_mem _ hu))
    rw [List.map_cons, List.sum_cons, ih]
    cases e : p t with
    | true => rw [List.filter_cons_of_pos e, List.map_cons, List.sum_cons]
    | false => rw [List.filter_cons_of_neg (by simp [e]), h t List.mem_cons_self e, Nat.zero_add]
theorem perm_sum {L M : List Nat} (h : L.Perm M) : L.sum = M.sum := by
  induction h with
  | nil => rfl
  | cons x _ ih => rw [List.sum_cons, List.sum_cons, ih]
  | swap x y l => simp only [List.sum_cons]; omega
  | trans _ _ i1 i2 => rw [i1, i2]
theorem spr_ways {w : Nat} (hw : 1 ≤ w ∧ w ≤ 5) {g : Nat → Bool} {s c b : Nat} (h : FreeIs w g s c) (hc : c < 2 ^ w) (hb : b < 2 ^ w) {next : Nat → Nat} (hn : ∀ t, t < 2 ^ w → dif t b ≠ 0 → next t = 0) :
    spr w g s next w 0 = ((waysP 6 c b).map next).sum := by
  have h0 := perm_ok ⟨w - 1, by omega⟩
  simp only [show w - 1 + 1 = w by omega] at h0
  have h1 := List.all_eq_true.1 (List.all_eq_true.1 h0 c (List.mem_range.2 hc)) b (List.mem_range.2 hb)
  rw [Bool.and_eq_true] at h1
  have h2 := List.all_eq_true.1 h1.2
  rw [spr_list h next w 0 (Nat.le_refl _), sum_filter (p := fun t => dif t b == 0) _ (fun t ht e => hn t (by simpa using h2 t ht) (by simpa using e))]
  exact (perm_sum ((List.isPerm_iff.1 h1.1).map next)).symm

/-- The cells of a row of a set. -/
def rowS (w set r : Nat) : Nat := set / 2 ^ (r * w) % 2 ^ w
theorem rowS_lt (w set r : Nat) : rowS w set r < 2 ^ w := Nat.mod_lt _ (Nat.pow_pos (by omega))
theorem rowS_bit (w set r i : Nat) : (rowS w set r).testBit i = (decide (i < w) && set.testBit (r * w + i)) := by
  unfold rowS
  rw [Nat.testBit_mod_two_pow, Nat.testBit_div_two_pow, Nat.add_comm i]
theorem bitN_test (s i : Nat) : (bitN s i == 0) = !s.testBit i := by
  rw [Nat.testBit_eq_decide_div_mod_eq]
  unfold bitN
  rcases Nat.mod_two_eq_zero_or_one (s / 2 ^ i) with e | e <;> rw [e] <;> rfl
theorem bit_of_ne {x : Nat} (h : x ≠ 0) : ∃ i, x.testBit i = true := by
  obtain ⟨i, hi⟩ := Nat.exists_testBit_of_ne_zero h
  exact ⟨i, hi⟩
/-- One row: from the cells s that are covered from the row ahead. -/
theorem rows_step {w h m s set : Nat} {g : Nat → Bool} (hw : 1 ≤ w ∧ w ≤ 5) (hm : m + 1 ≤ h) (hset : ∀ i, set.testBit i = (decide (i < w * h) && !g i)) (hs : s < 2 ^ w) (hg : dif s (rowS w set (h - (m + 1))) = 0) :
    rowsT w h g (m + 1) s = ((waysP 6 (dif (rowS w set (h - (m + 1))) s) (rowS w set (h - m))).map (rowsT w h g m)).sum := by
  obtain ⟨r, hr⟩ : ∃ r, h - (m + 1) = r := ⟨_, rfl⟩
  have hrm : h - m = r + 1 := by omega
  rw [hr] at hg ⊢
  have hin : ∀ i, i < w → r * w + i < w * h := fun i hi => by
    have : w * (r + 1) ≤ w * h := Nat.mul_le_mul_left _ (by omega)
    rw [Nat.mul_add, Nat.mul_comm w r] at this
    omega
  have hgood : ∀ i, i < w → s.testBit i = true → g (r * w + i) = false := fun i hi hb => by
    have h1 : (dif s (rowS w set r)).testBit i = false := by rw [hg]; exact Nat.zero_testBit i
    rw [dif_bit, hb, rowS_bit, decide_eq_true hi, hset, decide_eq_true (hin i hi)] at h1
    simpa using h1
  have hF : FreeIs w (rowG w r g) s (dif (rowS w set r) s) := ⟨fun i hi => by
    rw [dif_bit, rowS_bit, decide_eq_true hi, hset, decide_eq_true (hin i hi), bitN_test]
    rfl, fun i hi hgi => by
    have := hgood i hi
    rcases bitN_two s i with e | e
    · exact e
    · exfalso
      have hb : s.testBit i = true := by
        have := bitN_test s i
        rw [e] at this
        cases hh : s.testBit i with
        | true => rfl
        | false => rw [hh] at this; cases this
      have := hgood i hi hb
      unfold rowG at hgi
      rw [this] at hgi
      cases hgi⟩
  have := spr_ways hw hF (dif_lt _ (rowS_lt _ _ _)) (rowS_lt w set (r + 1)) (next := rowsT w h g m) (fun t ht hne => by
    obtain ⟨i, hi⟩ := bit_of_ne hne
    rw [dif_bit, Bool.and_eq_true] at hi
    have hiw : i < w := by
      apply Nat.lt_of_not_le
      intro h'
      have := Nat.testBit_lt_two_pow (Nat.lt_of_lt_of_le ht (Nat.pow_le_pow_right (n := 2) (by omega) h'))
      rw [this] at hi
      cases hi.1
    refine rows_hole (c0 := i) hiw ?_ (fun hm0 => ?_)
    · have := bitN_test t i
      rw [hi.1] at this
      rcases bitN_two t i with e | e
      · rw [e] at this; cases this
      · exact e
    · have h2 := hi.2
      rw [rowS_bit, decide_eq_true hiw, hset] at h2
      have hlt : (r + 1) * w + i < w * h := by
        have : w * (r + 1 + 1) ≤ w * h := Nat.mul_le_mul_left _ (by omega)
        rw [Nat.mul_add, Nat.mul_comm w (r + 1)] at this
        omega
      rw [decide_eq_true hlt] at h2
      rw [hrm]
      simpa using h2)
  rw [hrm, ← this, show rowsT w h g (m + 1) s = spr w (rowG w (h - (m + 1)) g) s (rowsT w h g m) w 0 from rfl, hr]
end Go.Proofs.YtnikgnicjbcbmabDoor
