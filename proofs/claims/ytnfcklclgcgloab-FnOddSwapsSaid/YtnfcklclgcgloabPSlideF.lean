
/-
  The program's slides: Concat, the numbers without the gap.
-/
import Derived.Test.YtnfcklclgcgloabPSlideE
import Derived.StillTailTactics
namespace Go.Proofs.Ytnfcklclgcgloab
open Go.RowKit
set_option linter.unusedVariables false

set_option maxHeartbeats 400000 in
theorem grow5_c (w : World) : Calls Try.prog 42 #[.slice none 0 0, .int .i64 5] w (Owns 3 1 0 [] w) := by
  go_enter Try.func42, Try.ntmps42
  go_wp2
  go_ret
  refine ⟨_, rfl, ?_, ((Below.refl _ _).alloc (Nat.le_refl _) _).drew⟩
  exact World.ownsRow_made w _ (grownCap w 5 0 3) (Nat.le_refl _) (grownCap_le_maxLen w 5 0 3 (by decide)) (by
    have := grownCap_ge w 5 0 3
    show (Builtin.zeroCells #[Value.int IntKind.i64 0] 5 ++ Builtin.zeroCells #[Value.int IntKind.i64 0] (grownCap w 5 0 3 - 5)).size = _
    rw [Array.size_append, size_zeroCells, size_zeroCells]; simp; omega)

set_option maxHeartbeats 1000000 in
set_option maxRecDepth 100000 in
theorem concat5_c (g n1 n2 : Nat) (A C : Option Addr) (ca cc : Nat) (xs ys : List Int) (w : World) (hb : g < w.heap.size) (h0 : w.cell? ⟨g, 0, none⟩ = some (.slice A n1 ca)) (h1 : w.cell? ⟨g, 1, none⟩ = some (.slice C n2 cc))
    (hx : Row w A (ints xs)) (hy : Row w C (ints ys)) (lx : xs.length = n1) (ly : ys.length = n2) (h5 : n1 + n2 = 5) :
    Calls Try.prog 41 #[.slice (some ⟨g, 0, none⟩) 2 2] w (Owns 3 1 5 (ints (xs ++ ys)) w) := by
  have Lx := hide lx
  have Ly := hide ly
  have H5 := hide h5
  have e1 : IntKind.i64.wrap (n1 : Int) = (n1 : Int) := IntWalk.i64_in _ (by omega)
  have e2 : IntKind.i64.wrap ((n1 : Int) + (n2 : Int)) = 5 := (IntWalk.i64_in _ (by omega)).trans (by omega)
  have n1l : n1 ≤ 5 := by omega
  have n2l : n2 ≤ 5 := by omega
  have nn1 : ¬ (n1 : Int) < 0 := by omega
  clear lx ly h5
  go_enter Try.func41, Try.ntmps41
  go_wp2_with fail
  refine wp_loop_rounds 3 ?_
  rw [rounds_succ]
  go_wp2_with fail
  rw [rounds_succ]
  go_wp2_with fail
  rw [rounds_succ]
  go_wp2_with fail
  refine (grow5_c _).mono ?_
  rintro e w1 ⟨v1, rfl, hown1, hb1⟩
  have ha1 := (hb1.cell (p := ⟨g, 0, none⟩) hb).trans h0
  have hx1 := hx.below hb1
  have hz1 := hb1.size
  go_wp2_with fail
  refine wp_loop_rounds 3 ?_
  rw [rounds_succ]
  go_wp2_with ((at_builtin; refine put_own rfl (.tmp 31) (.tmp 32) rfl Try.underlying23 elem_int0 rfl hown1 rfl (m := n1) (news := ints xs) (by have := Lx.out; simp; omega) hx1 (one_ints _) (by omega) (by omega) hz1 ?_; intro v2 w2 hown2 hg2 ho2))
  simp only [Nat.zero_add, List.nil_append] at hown2
  have hb2 := below_grown hb1 hz1 hown1 (Nat.le_refl _) hg2
  have hc2 := (hb2.cell (p := ⟨g, 1, none⟩) hb).trans h1
  have hy2 := hy.below hb2
  have hz2 := hb2.size
  clear ha1 hx1 ho2
  rw [rounds_succ]
  go_wp2_with ((at_builtin; refine put_own rfl (.tmp 31) (.tmp 32) rfl Try.underlying23 elem_int0 rfl hown2 rfl (m := n2) (news := ints ys) (by have := Ly.out; simp; omega) hy2 (one_ints _) (by omega) (by omega) hz2 ?_; intro v3 w3 hown3 hg3 ho3))
  clear ho3 hc2
  have h53 := H5.out
  rw [show n1 + n2 = 5 from h53] at hown3
  have O3 := hide (show w3.ownsRow w.heap.size 3 1 v3 5 (ints (xs ++ ys)) by simpa [ints] using hown3)
  have B3 := hide (below_grown hb2 hz2 hown2 (Nat.le_refl _) hg3)
  clear hown3 hown2 hown1 hg3 hg2 h53
  rw [rounds_succ]
  go_wp2_with fail
  go_ret
  exact ⟨v3, rfl, O3.out, B3.out⟩

/-- The six numbers of a slide's array, and those without the gap. -/
def padL (l : List Int) : List Int := (List.range 6).map (atF l)
def num5 (l : List Int) : List Int := (padL l).take (gapP l) ++ (padL l).drop (gapP l + 1)
theorem pad_is {l : List Int} (h : l.length ≤ 6) : padL l = l ++ List.replicate (6 - l.length) 0 := by
  unfold padL
  apply List.ext_getElem
  · simp; omega
  · intro i h1 h2
    rw [List.getElem_map, List.getElem_range]
    unfold atF
    by_cases hi : i < l.length
    · rw [List.getElem_append_left hi, List.getElem?_eq_getElem hi, Option.getD_some]
    · rw [List.getElem_append_right (by omega), List.getElem_replicate, List.getElem?_eq_none (by omega)]
      rfl
theorem num5_is {l : List Int} (h : l.length ≤ 6) (hg : gapP l < l.length) : num5 l = numsP l ++ List.replicate (6 - l.length) 0 := by
  unfold num5 numsP
  rw [pad_is h, List.take_append_of_le_length (by omega), List.drop_append_of_le_length (by omega), List.append_assoc]
theorem num5_len {l : List Int} (h : l.length ≤ 6) (hg : gapP l < l.length) : (num5 l).length = 5 := by
  rw [num5_is h hg]
  have : (numsP l).length = l.length - 1 := by unfold numsP; simp; omega
  simp [this]
  omega
theorem num5_eq {a b : List Int} (ha : a.length ≤ 6) (hl : a.length = b.length) (ga : gapP a < a.length) (gb : gapP b < b.length) : (num5 a == num5 b) = decide (numsP a = numsP b) := by
  rw [num5_is ha ga, num5_is (hl ▸ ha) gb, ← hl, Bool.eq_iff_iff, beq_iff_eq, decide_eq_true_eq]
  exact List.append_left_inj _

theorem row_six {g : Nat} {l : List Int} {w : World} (hb : Box w g 40 (sixF (atF l))) : Row w (some ⟨g, 0, none⟩) (ints (padL l)) := fun j hj => by
  have hj6 : j < 6 := by simpa [padL] using hj
  refine ⟨_, rfl, ?_⟩
  have : (⟨g, 0, none⟩ : Addr).add j = ⟨g, j, none⟩ := by unfold Addr.add; split <;> simp_all
  rw [this, hb.cell j, sixF_at (atF l) hj6]
  simp [padL]
theorem row_tail {g q : Nat} {cs : List Int} {w : World} (h : Row w (some ⟨g, 0, none⟩) (ints cs)) (hl : cs.length = 6) : Row w (some (if 6 = q then ⟨g, 0, none⟩ else ⟨g, q, none⟩)) (ints (cs.drop q)) := fun j hj => by
  simp only [ints, List.length_map, List.length_drop] at hj
  rw [if_neg (by omega)]
  obtain ⟨ad, e, hc⟩ := h (q + j) (by simp; omega)
  injection e with e
  subst e
  refine ⟨_, rfl, ?_⟩
  have e1 : (⟨g, 0, none⟩ : Addr).add (q + j) = ⟨g, q + j, none⟩ := by unfold Addr.add; split <;> simp_all
  have e2 : (⟨g, q, none⟩ : Addr).add j = ⟨g, q + j, none⟩ := by unfold Addr.add; split <;> simp_all
  rw [e1] at hc
  rw [e2, hc]
  simp
set_option maxHeartbeats 1000000 in
set_option maxRecDepth 100000 in
theorem numbers_c (l : List Int) (w : World) (ho : Ordr l) (h0 : 0 < l.length) : Calls Try.prog 28 #[slideV l] w (Owns 3 1 5 (ints (num5 l)) w) := by
  have hg := gap_lt ho h0
  have h6 := ho.1
  have HG := hide (fun w5 => gap_c l w5 ho h0)
  have bx := Box.new w 40 (sixF (atF l))
  have b0 : Below w.heap.size w (w.alloc (.cells (sixF (atF l)) 40)) := (Below.refl _ _).alloc (Nat.le_refl _) _
  have HN := hide (show num5 l = (padL l).take (gapP l) ++ (padL l).drop (gapP l + 1) from rfl)
  have hpl : (padL l).length = 6 := by simp [padL]
  clear ho h0
  obtain ⟨q, hq⟩ : ∃ q, gapP l + 1 = q := ⟨_, rfl⟩
  have hgl : gapP l ≤ 5 := by omega
  rw [hq] at HN
  generalize gapP l = G at *
  have g0 : (0 : Int) ≤ (G : Int) := by omega
  have g6 : (G : Int) ≤ 6 := by omega
  have eq : IntKind.i64.wrap ((G : Int) + 1) = (q : Int) := (IntWalk.i64_in _ (by omega)).trans (by omega)
  have q0 : (0 : Int) ≤ (q : Int) := by omega
  have q6 : (q : Int) ≤ 6 := by omega
  have hqG := hide hq
  obtain ⟨s1, s2, s3, s4, s5, s6⟩ := box6 bx
  go_enter Try.func28, Try.ntmps28
  go_wp2_with fail
  refine (HG.out _).mono ?_
  rintro e w1 ⟨rfl, d1⟩
  have bx := bx.then d1
  have d1 := below_then b0 b0.size d1
  clear s1 s2 s3 s4 s5 s6 hq b0
  go_wp2_with fail
  go_still_tail 5, (by kernel_rfl)
  have r0 := row_six bx
  have rt := (r0.upto G).drew
  have rd := (row_tail (q := q) r0 hpl).drew
  have hbd := d1.drew
  change wpList _ _ _ _ _ w1.drew
  generalize (if 6 = q then (⟨w.heap.size, 0, none⟩ : Addr) else ⟨w.heap.size, q, none⟩) = ad at *
  have l1 : ((padL l).take G).length = G := by rw [List.length_take, hpl]; omega
  have l2 : ((padL l).drop q).length = 6 - q := by rw [List.length_drop, hpl]
  clear r0 bx d1
  generalize w1.drew = w2 at *
  have bx2 := Box.new w2 23 #[.slice (some ⟨w.heap.size, 0, none⟩) G 6, .slice (some ad) (6 - q) (6 - q)]
  have h5 : G + (6 - q) = 5 := by have := hqG.out; omega
  have z2 := hbd.size
  have HC := hide (concat5_c w2.heap.size G (6 - q) _ _ 6 (6 - q) ((padL l).take G) ((padL l).drop q) (w2.alloc (.cells #[.slice (some ⟨w.heap.size, 0, none⟩) G 6, .slice (some ad) (6 - q) (6 - q)] 23)) (by simp) (bx2.cell 0) (bx2.cell 1) (rt.alloc _) (rd.alloc _) l1 l2 h5)
  rw [← HN.out] at HC
  clear rt rd bx2 l1 l2 h5
  go_wp2_with fail
  refine HC.out.mono ?_
  rintro e w3 ⟨v3, rfl, o3, d3⟩
  have o3 := own_mono o3 (base' := w.heap.size) (by simp; omega)
  have d3 := below_then (hbd.alloc z2 _) (by simp; omega) d3
  go_wp2_with fail
  go_ret
  exact ⟨v3, rfl, o3, d3⟩
theorem equal5_c (v u : Value) (B1 B2 : Nat) (xs ys : List Int) (w : World) (hx : w.ownsRow B1 3 1 v 5 (ints xs)) (hy : w.ownsRow B2 3 1 u 5 (ints ys)) :
    Calls Try.prog 27 #[v, u] w (Plain (.bool (xs == ys)) w) := by
  obtain ⟨g1, c1, rfl, _, _, r1, _⟩ := own_one hx (by omega)
  obtain ⟨g2, c2, rfl, _, _, r2, _⟩ := own_one hy (by omega)
  have lx : xs.length = 5 := by have := hx.1; simpa using this
  have ly : ys.length = 5 := by have := hy.1; simpa using this
  have ea : ∀ g j : Nat, (⟨g, 0, none⟩ : Addr).add j = ⟨g, j, none⟩ := fun g j => by unfold Addr.add; split <;> simp_all
  have := Try.slices_Equal_int g1 0 5 c1 g2 0 5 c2 xs ys w (by omega) (by omega) (by omega) (by omega) (fun j hj => by
    obtain ⟨ad, e, hc⟩ := r1.int (k := j) hj
    injection e with e
    subst e
    rw [ea] at hc
    rw [Nat.zero_add, hc]
    simp [List.getD]) (fun j hj => by
    obtain ⟨ad, e, hc⟩ := r2.int (k := j) hj
    injection e with e
    subst e
    rw [ea] at hc
    rw [Nat.zero_add, hc]
    simp [List.getD])
  rw [List.take_of_length_le (by omega), List.take_of_length_le (by omega)] at this
  exact this.mono fun e w' ⟨h1, q, h2⟩ => ⟨h1, h2 ▸ below_drewN (Below.refl _ _) q⟩
end Go.Proofs.Ytnfcklclgcgloab
