
/-
  The reference model's reach.
-/
import Derived.Test.YtakphmcelhbaiacSpecC
namespace Go.Proofs.Ytakphmcelhbaiac
open Go.RowKit
set_option linter.unusedVariables false

def InB (bc br r c : Int) : Prop := 0 ≤ r ∧ r < br ∧ 0 ≤ c ∧ c < bc
instance (bc br r c : Int) : Decidable (InB bc br r c) := by unfold InB; infer_instance
theorem cell_parts {bc br r c : Int} (h1 : 1 ≤ bc) (h2 : bc ≤ 5) (h3 : 1 ≤ br) (h4 : br ≤ 5) (h : InB bc br r c) : (r * bc + c) / bc = r ∧ (r * bc + c) % bc = c ∧ (0 ≤ r * bc + c ∧ r * bc + c < bc * br) ∧ (0 ≤ r * bc ∧ r * bc ≤ 20) := by
  obtain ⟨a, b, c1, d⟩ := h
  obtain ⟨e1, e⟩ := row_bd h1 h2 h3 h4 a b c1 d
  refine ⟨?_, ?_, e, e1⟩
  · rw [Int.add_comm, Int.add_mul_ediv_right _ _ (by omega), Int.ediv_eq_zero_of_lt c1 d]; omega
  · rw [Int.add_comm, Int.add_mul_emod_self_right, Int.emod_eq_of_lt c1 d]
theorem next_in (bc br dr dc x : Int) : nextP bc br dr dc x = if InB bc br (x / bc + dr) (x % bc + dc) then some ((x / bc + dr) * bc + (x % bc + dc)) else none := rfl
/-- What is still to come from row r, column c. -/
def restP (bc br : Int) (far : Bool) (others : List Int) (dr dc : Int) (f : Nat) (r c : Int) : List Int := if InB bc br r c then rayA bc br far others dr dc f (r * bc + c) else []
theorem rest_goes (bc br : Int) (far : Bool) (others : List Int) (cell dr dc : Int) : goesP bc br far others cell (dr, dc) = restP bc br far others dr dc 5 (cell / bc + dr) (cell % bc + dc) := by
  unfold goesP restP
  simp only [next_in]
  split <;> simp_all
theorem rest_step {bc br : Int} {far : Bool} {others : List Int} {dr dc : Int} {f : Nat} {r c : Int} (h1 : 1 ≤ bc) (h2 : bc ≤ 5) (h3 : 1 ≤ br) (h4 : br ≤ 5) (h : InB bc br r c) (hf : far = true) (ho : ¬ (r * bc + c) ∈ others) :
    restP bc br far others dr dc (f + 1) r c = (r * bc + c) :: restP bc br far others dr dc f (r + dr) (c + dc) := by
  obtain ⟨e1, e2, _⟩ := cell_parts h1 h2 h3 h4 h
  rw [restP, if_pos h, rayA, if_pos ⟨hf, by rw [List.contains_eq_mem]; simpa using ho⟩, next_in, e1, e2]
  unfold restP
  split <;> simp_all
theorem rest_stop {bc br : Int} {far : Bool} {others : List Int} {dr dc : Int} {f : Nat} {r c : Int} (h : InB bc br r c) (hs : far = false ∨ (r * bc + c) ∈ others) :
    restP bc br far others dr dc (f + 1) r c = [r * bc + c] := by
  rw [restP, if_pos h, rayA, if_neg]
  rintro ⟨a, b⟩
  rcases hs with hs | hs
  · rw [hs] at a; cases a
  · rw [List.contains_eq_mem, decide_eq_false_iff_not] at b; exact b hs
theorem rest_out {bc br : Int} {far : Bool} {others : List Int} {dr dc : Int} {f : Nat} {r c : Int} (h : ¬ InB bc br r c) : restP bc br far others dr dc f r c = [] := by rw [restP, if_neg h]
/-- How far the edge is, by row and column. -/
def potR (bc br dr dc r c : Int) : Int := if 0 < dr then br - 1 - r else if dr < 0 then r else if 0 < dc then bc - 1 - c else c
theorem potR_bd {bc br dr dc r c : Int} (h2 : bc ≤ 5) (h4 : br ≤ 5) (h : InB bc br r c) : 0 ≤ potR bc br dr dc r c ∧ potR bc br dr dc r c ≤ 4 := by
  obtain ⟨a, b, c1, d⟩ := h
  unfold potR
  split
  · omega
  · split
    · omega
    · split <;> omega
theorem potR_next {bc br dr dc r c : Int} (hs : okStep (dr, dc)) : potR bc br dr dc (r + dr) (c + dc) < potR bc br dr dc r c := by
  obtain ⟨_, _, h5⟩ := hs
  simp only at h5
  unfold potR
  split
  · omega
  · split
    · omega
    · split <;> omega

set_option maxHeartbeats 2000000 in
set_option maxRecDepth 100000 in
theorem specReach_c (bc br cell : Int) (s : ByteArray) (O : Option Addr) (oc : Nat) (ss : List (Int × Int)) (far : Bool) (others : List Int) (w : World) (hk : kindL s.toList = some (ss, far)) (h1 : 1 ≤ bc) (h2 : bc ≤ 5) (h3 : 1 ≤ br) (h4 : br ≤ 5)
    (g1 : 0 ≤ cell) (g2 : cell < bc * br) (ho : Row w O (ints others)) (hol : others.length ≤ maxLen) :
    Calls Try.prog 41 #[.int .i64 bc, .int .i64 br, .string s, .int .i64 cell, .slice O others.length oc] w (Owns 3 1 (reachP bc br far others cell ss).length (ints (reachP bc br far others cell ss)) w) := by
  obtain ⟨hs, hn, _⟩ := kind_ok hk
  have hst := steps_c s
  unfold StepsEnd at hst
  simp only [hk] at hst
  have Hst := hide hst
  clear hst hk
  have hbr := (mul_bd h1 h2 h3 h4).2
  have g3 : cell < 25 := by omega
  obtain ⟨⟨q1, q2⟩, r1, r2⟩ := quo_bd h1 h2 g1 g3
  go_enter Try.func41, Try.ntmps41
  go_wp2_with fail
  refine (Hst.out _).mono ?_
  rintro e w1 ⟨gg, lc, rfl, hst, hb1⟩
  clear Hst
  go_wp2_with fail
  go_loopw [13, 14] (fun v i wr => ∃ (k : Nat) (acc : List Int), k ≤ ss.length ∧ i = .int .i64 k ∧ wr.ownsRow w1.heap.size 3 1 v acc.length (ints acc) ∧ Hid (acc = cellsP bc br far others cell (ss.take k)) ∧ acc.length ≤ 5 * k ∧
      Below w1.heap.size w1 wr) (fun _ i _ => ss.length - (intOf i).toNat)
  case atStart => exact ⟨0, [], Nat.zero_le _, rfl, World.ownsRow_made w1 #[] 0 (Nat.le_refl _) (by simp [maxLen]) rfl, rfl, by simp, (Below.refl _ _).alloc (Nat.le_refl _) _⟩
  case round =>
    obtain ⟨k, acc, hk, rfl, hown, hacc, hal, hb⟩ := hrel
    obtain ⟨wo, rfl⟩ : ∃ wo : World, wo = wr := ⟨_, rfl⟩
    have z := hb.size
    have z0 := hb1.size
    by_cases hlt : k < ss.length
    · obtain ⟨g, ca, cb, cc⟩ := (hst.then hb).at_ hlt
      obtain ⟨dr, dc, hp⟩ : ∃ dr dc, ss[k] = (dr, dc) := ⟨_, _, rfl⟩
      have hok := hs.out _ (List.getElem_mem hlt)
      rw [hp] at cb cc hok
      have HT : Hid (cellsP bc br far others cell (ss.take (k + 1)) = acc ++ restP bc br far others dr dc 5 (cell / bc + dr) (cell % bc + dc)) := by
        rw [cells_snoc _ _ _ _ _ _ _ hlt, hp, hacc.out, rest_goes]; exact rfl
      have P := hide hp
      clear hp
      have OK := hide hok
      obtain ⟨⟨s1, s2⟩, ⟨s3, s4⟩, _⟩ := hok
      simp only at s1 s2 s3 s4 cb cc
      go_wp2_with fail
      go_quiet (fail)
      all_goals go_wp2_with fail
      go_quiet (fail)
      all_goals go_wp2_with fail
      have hown := own_below hown (Below.refl wo.heap.size wo)
      have R0 : Hid (cell / bc + dr = cell / bc + dr) := rfl
      have hr0 : -10 ≤ cell / bc + dr ∧ cell / bc + dr ≤ 30 := by omega
      have hc0 : -10 ≤ cell % bc + dc ∧ cell % bc + dc ≤ 30 := by omega
      generalize cell / bc + dr = r0 at *
      generalize cell % bc + dc = c0 at *
      obtain ⟨r0a, r0b⟩ := hr0
      obtain ⟨c0a, c0b⟩ := hc0
      clear R0
      go_loopg [13, 15, 16] 5 (fun f v a b wr => ∃ (acc' : List Int) (r c : Int), a = .int .i64 r ∧ b = .int .i64 c ∧ wr.ownsRow w1.heap.size 3 1 v acc'.length (ints acc') ∧ Hid (cellsP bc br far others cell (ss.take (k + 1)) = acc' ++ restP bc br far others dr dc f r c) ∧
          acc'.length + f ≤ 5 * k + 5 ∧ Hid (InB bc br r c → potR bc br dr dc r c < f) ∧ Below w1.heap.size w1 wr ∧ (-10 ≤ r ∧ r ≤ 30) ∧ (-10 ≤ c ∧ c ≤ 30))
      case atStart => exact ⟨acc, r0, c0, rfl, rfl, hown, HT.out, by omega, fun h => by have := (potR_bd (dr := dr) (dc := dc) h2 h4 h).2; omega, below_drewN (below_drewN hb _) _, ⟨r0a, r0b⟩, ⟨c0a, c0b⟩⟩
      case round =>
        obtain ⟨acc', r, c, rfl, rfl, hown', hacc', hal', hpot, hb', ⟨ra, rb⟩, ⟨cL, cH⟩⟩ := hrel
        obtain ⟨wi, rfl⟩ : ∃ wi : World, wi = wr := ⟨_, rfl⟩
        have zi := hb'.size
        by_cases hrow : 0 ≤ r ∧ r ≤ br - 1
        · by_cases hcol : 0 ≤ c ∧ c ≤ bc - 1
          · have hin : InB bc br r c := ⟨hrow.1, by omega, hcol.1, by omega⟩
            obtain ⟨p1, p2, ⟨p3, p4⟩, p5, p6⟩ := cell_parts h1 h2 h3 h4 hin
            have hp0 := (potR_bd (dr := dr) (dc := dc) h2 h4 hin).1
            have hp1 := hpot.out hin
            obtain ⟨f, rfl⟩ : ∃ f, gk = f + 1 := ⟨gk - 1, by omega⟩
            have HIN := hide hin
            have E1 := hide p1
            have E2 := hide p2
            clear p1 p2 hin
            have q1' := hrow.1
            have q2' := hrow.2
            have q3' := hcol.1
            have q4' := hcol.2
            clear hrow hcol
            go_wp2_with fail
            refine (inRange_yes r 0 (br - 1) _ q1' q2').mono ?_
            rintro e w' ⟨rfl, rfl⟩
            go_wp2_with fail
            refine (inRange_yes c 0 (bc - 1) _ q3' q4').mono ?_
            rintro e w' ⟨rfl, rfl⟩
            cases far with
            | false =>
              go_wp2_with ((at_builtin; refine put_own rfl (.tmp 59) (.tmp 65) rfl Try.underlying28 elem_int' rfl (hown'.alloc _) rfl (m := 1) (news := [.int .i64 (r * bc + c)]) rfl (row_new _ _ _ rfl) (by simp [Value.oneCell']) (by omega) (by omega) (by simp; omega) ?_; intro v3 w3 hown3 hg3 ho3; have hb3 := below_grown (hb'.alloc zi _) (by simp; omega) (hown'.alloc _) (Nat.le_refl _) hg3; clear hg3 ho3))
              exact ⟨⟨k + 1, acc' ++ [r * bc + c], hlt, rfl, by simpa using hown3, by rw [hacc'.out, rest_stop HIN.out (.inl rfl)]; exact rfl, by simp; omega, hb3⟩, by simp [intOf]; omega⟩
            | true =>
              by_cases hmem : (r * bc + c) ∈ others
              · have hcon : ∀ w5 : World, Below w1.heap.size w1 w5 → Calls Try.prog 55 #[.slice O others.length oc, .int .i64 (r * bc + c)] w5 (Plain (.bool true) w5) := fun w5 h5 => by
                  have := hasInt_c O others oc (r * bc + c) w5 ((ho.below hb1).below h5) hol
                  rwa [decide_eq_true hmem] at this
                have Hcon := hide hcon
                have HM := hide hmem
                clear hcon hmem
                go_wp2_with ((at_builtin; refine put_own rfl (.tmp 59) (.tmp 65) rfl Try.underlying28 elem_int' rfl (hown'.alloc _) rfl (m := 1) (news := [.int .i64 (r * bc + c)]) rfl (row_new _ _ _ rfl) (by simp [Value.oneCell']) (by omega) (by omega) (by simp; omega) ?_; intro v3 w3 hown3 hg3 ho3; have hb3 := below_grown (hb'.alloc zi _) (by simp; omega) (hown'.alloc _) (Nat.le_refl _) hg3; clear hg3 ho3))
                refine (Hcon.out _ hb3).mono ?_
                rintro e w4 ⟨rfl, hb4⟩
                go_wp2_with fail
                exact ⟨⟨k + 1, acc' ++ [r * bc + c], hlt, rfl, by simpa using own_below hown3 hb4, by rw [hacc'.out, rest_stop HIN.out (.inr HM.out)]; exact rfl, by simp; omega, below_then hb3 hb3.size hb4⟩, by simp [intOf]; omega⟩
              · have hcon : ∀ w5 : World, Below w1.heap.size w1 w5 → Calls Try.prog 55 #[.slice O others.length oc, .int .i64 (r * bc + c)] w5 (Plain (.bool false) w5) := fun w5 h5 => by
                  have := hasInt_c O others oc (r * bc + c) w5 ((ho.below hb1).below h5) hol
                  rwa [decide_eq_false hmem] at this
                have Hcon := hide hcon
                have HM := hide hmem
                clear hcon hmem
                go_wp2_with ((at_builtin; refine put_own rfl (.tmp 59) (.tmp 65) rfl Try.underlying28 elem_int' rfl (hown'.alloc _) rfl (m := 1) (news := [.int .i64 (r * bc + c)]) rfl (row_new _ _ _ rfl) (by simp [Value.oneCell']) (by omega) (by omega) (by simp; omega) ?_; intro v3 w3 hown3 hg3 ho3; have hb3 := below_grown (hb'.alloc zi _) (by simp; omega) (hown'.alloc _) (Nat.le_refl _) hg3; clear hg3 ho3))
                refine (Hcon.out _ hb3).mono ?_
                rintro e w4 ⟨rfl, hb4⟩
                have hb4' := below_then hb3 hb3.size hb4
                obtain ⟨g', da, db, dd⟩ := (hst.then hb4').at_ hlt
                rw [P.out] at db dd
                simp only at db dd
                go_wp2_with fail
                go_roundg f
                case rel => exact ⟨acc' ++ [r * bc + c], r + dr, c + dc, rfl, rfl, by simpa using own_below hown3 hb4, by rw [hacc'.out, rest_step h1 h2 h3 h4 HIN.out rfl HM.out]; simp [Hid], by simp; omega, fun h => by have := potR_next (bc := bc) (br := br) (r := r) (c := c) OK.out; omega, hb4', ⟨by omega, by omega⟩, ⟨by omega, by omega⟩⟩
                case measure => omega
          · have hnin : ¬ InB bc br r c := fun h => hcol ⟨h.2.2.1, by have := h.2.2.2; omega⟩
            have HN := hide hnin
            have q1' := hrow.1
            have q2' := hrow.2
            clear hnin hrow
            go_wp2_with fail
            refine (inRange_yes r 0 (br - 1) _ q1' q2').mono ?_
            rintro e w' ⟨rfl, rfl⟩
            go_wp2_with fail
            refine (inRange_no c 0 (bc - 1) _ hcol).mono ?_
            rintro e w' ⟨rfl, rfl⟩
            go_wp2_with fail
            exact ⟨⟨k + 1, acc', hlt, rfl, hown', by rw [hacc'.out, rest_out HN.out]; simp [Hid], by omega, hb'⟩, by simp [intOf]; omega⟩
        · have hnin : ¬ InB bc br r c := fun h => hrow ⟨h.1, by have := h.2.1; omega⟩
          have HN := hide hnin
          clear hnin
          go_wp2_with fail
          refine (inRange_no r 0 (br - 1) _ hrow).mono ?_
          rintro e w' ⟨rfl, rfl⟩
          go_wp2_with fail
          exact ⟨⟨k + 1, acc', hlt, rfl, hown', by rw [hacc'.out, rest_out HN.out]; simp [Hid], by omega, hb'⟩, by simp [intOf]; omega⟩
    · have hk2 : Hid (k = ss.length) := hide (by omega)
      obtain ⟨A, c, rfl, _, _, hro, _⟩ := own_row hown
      go_wp2_with fail
      refine (asc_ins A c acc _ hro (by omega)).mono ?_
      rintro e w2 ⟨v, rfl, hown2, hb2⟩
      have hlist : reachP bc br far others cell ss = ascP acc := by
        rw [ascP_eq, hacc.out, hk2.out, List.take_of_length_le (Nat.le_refl _)]; rfl
      have HE : Hid (w2.ownsRow w.heap.size 3 1 v (reachP bc br far others cell ss).length (ints (reachP bc br far others cell ss))) := by
        rw [hlist]; exact own_mono hown2 (by omega)
      clear hlist hown2
      go_wp2_with fail
      go_ret
      exact ⟨_, rfl, HE.out, below_then hb1 z0 (below_then hb z hb2)⟩
end Go.Proofs.Ytakphmcelhbaiac
