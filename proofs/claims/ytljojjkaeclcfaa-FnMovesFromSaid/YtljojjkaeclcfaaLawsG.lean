
/-
  The walk of the law FnMovesFrom.
-/
import Derived.Test.YtljojjkaeclcfaaLawsE
import Derived.Test.YtljojjkaeclcfaaFactsA
import Derived.Test.YtljojjkaeclcfaaFactsB
namespace Go.Proofs.Ytljojjkaeclcfaa
open Go.RowKit
set_option linter.unusedVariables false

theorem facts_of {p : List (Int × Int) × Bool} (h : p ∈ six) : factsAll p := by
  simp only [six, List.mem_cons, List.not_mem_nil, or_false] at h
  rcases h with rfl | rfl | rfl | rfl | rfl | rfl
  · exact facts_step
  · exact facts_king
  · exact facts_knight
  · exact facts_rook
  · exact facts_bishop
  · exact facts_queen
theorem turn_eq {bc br : Int} (hB : Brd bc br) (x : Nat) (hx : (x : Int) < bc * br) : ((turnN bc br x : Nat) : Int) = (x : Int) % bc * br + (x : Int) / bc ∧ (turnN bc br x : Int) < bc * br := by
  obtain ⟨h1, h2, h3, h4⟩ := hB
  have hb := (mul_bd h1 h2 h3 h4).2
  obtain ⟨⟨q1, q2⟩, r1, r2⟩ := quo_bd (cell := x) h1 h2 (by omega) (by omega)
  have q3 : (x : Int) / bc < br := Int.ediv_lt_of_lt_mul (by omega) (by rw [Int.mul_comm]; exact hx)
  obtain ⟨_, b1, b2⟩ := row_bd h3 h4 h1 h2 r1 r2 q1 q3
  unfold turnN
  rw [Int.mul_comm bc br]
  omega
theorem moves_tab {bc br : Int} {s : List UInt8} {ss : List (Int × Int)} {far : Bool} (hB : Brd bc br) (hk : kindL s = some (ss, far)) {N : Nat} (hN : bc * br = (N : Int)) (c : Nat) (hc : c < N) :
    movesFromP bc br s c = movesT (tabP bc br far ss) N c ∧ (movesFromP bc br s c).length = N := by
  obtain ⟨h1, h2, h3, h4⟩ := hB
  have hin : ∀ x, ∀ y ∈ reachP bc br far [] x ss, 0 ≤ y ∧ y < (N : Int) := fun x y hy => by
    unfold reachP at hy
    rw [List.mem_mergeSort] at hy
    have := cells_in h1 h2 h3 h4 y hy
    rwa [hN] at this
  have hm := Met.start (N := N) (cell := (c : Int)) (by omega) (by omega)
  have e : movesFromP bc br s c = bfsP bc br far ss 26 ((List.replicate N (-1)).set c 0, [(c : Int)]) 0 := by
    simp only [movesFromP, hk]
    rw [if_pos ⟨⟨h1, h2, h3, h4⟩, by omega, by omega⟩]
    unfold movesP
    rw [hN]
    rfl
  rw [e]
  exact ⟨(bfsT_eq far ss hN hin 26 _ 0 hm).symm, bfs_len bc br far ss hin 26 _ 0 hm⟩
structure MF (bc br cell : Int) (s : List UInt8) (N : Nat) (M : Nat → List Int) (T : List Int) (cn : Nat) : Prop where
  area : bc * br = (N : Int)
  big : N ≤ 25
  at_ : cell = (cn : Int)
  lt : cn < N
  row : ∀ x, x < N → movesFromP bc br s x = M x ∧ (M x).length = N
  turn : movesFromP br bc s (turnN bc br cn : Nat) = T ∧ T.length = N
  same : ∀ x, x < N → (M x)[cn]?.getD 0 = (M cn)[x]?.getD 0 ∧ T[turnN bc br x]?.getD 0 = (M cn)[x]?.getD 0 ∧ decide ((x : Int) ∈ reachOfP bc br s cell []) = ((M cn)[x]?.getD 0 == 1)
  zero : (M cn)[cn]?.getD 0 = 0
theorem getD_any {l : List Int} {k : Nat} (h : k < l.length) : l[k]?.getD 7 = l[k]?.getD 0 := by rw [List.getElem?_eq_getElem h]; rfl
theorem mf_of {bc br cell : Int} {s : List UInt8} (h : movesFromP bc br s cell ≠ []) : ∃ N M T cn, Brd bc br ∧ MF bc br cell s N M T cn := by
  cases hk : kindL s with
  | none => exact absurd (by simp [movesFromP, hk]) h
  | some p =>
    obtain ⟨ss, far⟩ := p
    by_cases hv : Brd bc br ∧ 0 ≤ cell ∧ cell < bc * br
    · obtain ⟨hB, g1, g2⟩ := hv
      have hB' := hB
      obtain ⟨h1, h2, h3, h4⟩ := hB'
      obtain ⟨m1, m2⟩ := mul_bd h1 h2 h3 h4
      obtain ⟨N, hN⟩ : ∃ N : Nat, bc * br = (N : Int) := ⟨(bc * br).toNat, by omega⟩
      obtain ⟨cn, rfl⟩ : ∃ cn : Nat, cell = (cn : Int) := ⟨cell.toNat, by omega⟩
      have hc : cn < N := by omega
      have hT := turn_eq hB cn (by omega)
      have hN' : br * bc = (N : Int) := by rw [Int.mul_comm]; exact hN
      have row := fun x hx => moves_tab (far := far) (ss := ss) hB hk hN x hx
      have trn := moves_tab (far := far) (ss := ss) (brd_turn hB) hk hN' (turnN bc br cn) (by omega)
      have hf := boards (fun a b => factsOk a b (ss, far) = true) (facts_of (kind_six hk)) hB
      simp only [factsOk, hN, List.all_eq_true, List.mem_range, Bool.and_eq_true, beq_iff_eq, Int.toNat_natCast] at hf
      have tab : ∀ (T : List (List Int)) c, c < N → ((List.range N).map (movesT T N))[c]?.getD [] = movesT T N c := fun T c hc => by
        rw [List.getElem?_map, List.getElem?_range hc, Option.map_some, Option.getD_some]
      obtain ⟨z, hf⟩ := hf cn hc
      rw [tab _ _ hc, ← (row cn hc).1, getD_any (by rw [(row cn hc).2]; exact hc)] at z
      refine ⟨N, fun x => movesFromP bc br s x, _, cn, hB, hN, by omega, rfl, hc, fun x hx => ⟨rfl, (row x hx).2⟩, ⟨rfl, trn.2⟩, fun x hx => ?_, z⟩
      have hX := turn_eq hB x (by omega)
      obtain ⟨⟨f1, f2⟩, f3⟩ := hf x hx
      rw [tab _ _ hc, tab _ _ hx, ← (row cn hc).1, ← (row x hx).1, getD_any (by rw [(row x hx).2]; exact hc), getD_any (by rw [(row cn hc).2]; exact hx)] at f1
      rw [tab _ _ hc, tab _ _ (by omega), ← (row cn hc).1, ← trn.1, getD_any (by rw [trn.2]; omega), getD_any (by rw [(row cn hc).2]; exact hx)] at f2
      rw [tab _ _ hc, ← (row cn hc).1, getD_any (by rw [(row cn hc).2]; exact hx)] at f3
      refine ⟨f1, f2, ?_⟩
      rw [f3]
      have e2 : reachOfP bc br s cn [] = reachP bc br far [] cn ss := by simp only [reachOfP, hk]; rw [if_pos ⟨hB, ⟨g1, g2⟩, AscTo.zero _ _⟩]
      unfold tabP
      rw [hN, Int.toNat_natCast, List.getElem?_map, List.getElem?_range hc, Option.map_some, Option.getD_some, ← reachP_asc, e2, List.contains_eq_mem]
    · exact absurd (by simp only [movesFromP, hk]; rw [if_neg hv]) h
theorem isIn_e (A : Option Addr) (l : List Int) (c : Nat) (x : Int) (w : World) {b : Bool} (hm : l.length ≤ 1048576) (hr : Row w A (ints l)) (h : decide (x ∈ l) = b) : Calls Try.prog 11 #[.slice A l.length c, .int .i64 x] w (Plain (.bool b) w) := by
  rw [← h]
  exact isIn_c A l c x w hr (by simp [maxLen]; omega)
theorem turned_c (bc br : Int) (x : Nat) (w : World) (hB : Brd bc br) (hx : (x : Int) < bc * br) :
    Calls Try.prog 10 #[.int .i64 bc, .int .i64 br, .int .i64 x] w (Plain (.int .i64 (turnN bc br x : Nat)) w) := by
  obtain ⟨e, l⟩ := turn_eq hB x hx
  obtain ⟨h1, h2, h3, h4⟩ := hB
  have hb := (mul_bd h1 h2 h3 h4).2
  obtain ⟨⟨q1, q2⟩, r1, r2⟩ := quo_bd (cell := x) h1 h2 (by omega) (by omega)
  have p1 : 0 ≤ (x : Int) % bc * br := Int.mul_nonneg r1 (by omega)
  have p2 : (x : Int) % bc * br ≤ 25 := by omega
  have t1 : Int.tmod (x : Int) bc = (x : Int) % bc := Int.tmod_eq_emod_of_nonneg (by omega)
  have t2 : Int.tdiv (x : Int) bc = (x : Int) / bc := Int.tdiv_eq_ediv_of_nonneg (by omega)
  rw [e]
  clear e l
  generalize (x : Int) % bc = r at *
  generalize (x : Int) / bc = q at *
  have e0 : IntKind.i64.wrap r = r := IntWalk.i64_in _ (by omega)
  have e1 : IntKind.i64.wrap q = q := IntWalk.i64_in _ (by omega)
  have e2 : IntKind.i64.wrap (r * br) = r * br := IntWalk.i64_in _ (by omega)
  have e3 : IntKind.i64.wrap (r * br + q) = r * br + q := IntWalk.i64_in _ (by omega)
  go_enter Try.func10, Try.ntmps10
  go_wp2_with fail
  go_quiet (fail)
  all_goals clear e0 e1 e2 e3 t1 t2
  go_wp2_with fail
  go_ret
  exact ⟨rfl, below_drewN (Below.refl _ _) _⟩
end Go.Proofs.Ytljojjkaeclcfaa
