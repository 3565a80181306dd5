
/-
  Boards: reach.
-/
import Derived.Test.YtdjkdjnbmhpokabMoveD
import Derived.Test.YtdjkdjnbmhpokabReach
import Derived.Test.YtdjkdjnbmhpokabSorted
import Derived.Deep.LoopGhost
namespace Go.Proofs.Ytdjkdjnbmhpokab
open Go.RowKit
set_option linter.unusedVariables false

theorem elem_int : Elem Try.prog 3 1 8 := Elem.of (z := .int .i64 0) (by kernel_rfl) rfl (by omega)

theorem onward_any (bc br cell dr dc : Int) (w : World) (h1 : 1 ≤ bc) (h2 : bc ≤ 5) (h3 : 1 ≤ br) (h4 : br ≤ 5) (g1 : 0 ≤ cell) (g2 : cell < 25) (g3 : -2 ≤ dr) (g4 : dr ≤ 2) (g5 : -2 ≤ dc) (g6 : dc ≤ 2) :
    Calls Try.prog 54 #[boardV bc br, .int .i64 cell, .agg #[.int .i64 dr, .int .i64 dc]] w (Plain (.tuple #[.int .i64 (onP (nextP bc br dr dc cell)).1, .bool (onP (nextP bc br dr dc cell)).2]) w) := by
  unfold nextP
  by_cases h : 0 ≤ cell / bc + dr ∧ cell / bc + dr < br ∧ 0 ≤ cell % bc + dc ∧ cell % bc + dc < bc
  · rw [if_pos h]
    obtain ⟨a, b, c, d⟩ := h
    exact onward_yes bc br cell dr dc w h1 h2 h3 h4 g1 g2 g3 g4 g5 g6 a b c d
  · rw [if_neg h]
    exact onward_no bc br cell dr dc w h1 h2 h3 h4 g1 g2 g3 g4 g5 g6 h

/-- The address is a plain one. -/
def Flat (O : Option Addr) : Prop := ∀ ad, O = some ad → ∃ b off, ad = ⟨b, off, none⟩
theorem contains_c (O : Option Addr) (l : List Int) (oc : Nat) (x : Int) (w : World) (hr : Row w O (ints l)) (hf : Flat O) (hm : l.length ≤ maxLen) :
    Calls Try.prog 55 #[.slice O l.length oc, .int .i64 x] w (Plain (.bool (l.contains x)) w) := by
  rcases l with _ | ⟨y, l⟩
  · exact (Try.slices_Contains_int_empty O oc x w).mono fun e w' ⟨he, hw⟩ => ⟨he, hw ▸ Below.refl _ _⟩
  · obtain ⟨ad, rfl, _⟩ := hr 0 (by simp)
    obtain ⟨b, off, rfl⟩ := hf ad rfl
    unfold maxLen at hm
    refine (Try.slices_Contains_int b off (y :: l).length oc (y :: l) x w (Nat.le_refl _) (by omega) fun j hj => ?_).mono fun e w' ⟨he, hw⟩ => ⟨by simpa using he, hw ▸ Below.refl _ _⟩
    obtain ⟨_, ⟨rfl⟩, hc⟩ := hr.int hj
    rw [← List.getD_eq_getElem?_getD] at hc
    rw [← hc]
    unfold Addr.add
    split
    · subst_vars; rfl
    · rfl

set_option maxHeartbeats 1000000 in
set_option maxRecDepth 100000 in
theorem reach_far (bc br cell : Int) (g : Nat) (O : Option Addr) (c oc : Nat) (ss : List (Int × Int)) (others : List Int) (w : World) (h1 : 1 ≤ bc) (h2 : bc ≤ 5) (h3 : 1 ≤ br) (h4 : br ≤ 5)
    (g1 : 0 ≤ cell) (g2 : cell < bc * br) (hs : Hid (∀ p ∈ ss, okStep p)) (hn : ss.length ≤ 8) (hr : Row w (some ⟨g, 0, none⟩) (flat ss)) (ho : Row w O (ints others)) (hof : Flat O) (hol : others.length ≤ maxLen) :
    Calls Try.prog 37 #[boardV bc br, .iface 100 (.agg #[.slice (some ⟨g, 0, none⟩) ss.length c]), .int .i64 cell, .slice O others.length oc] w (Owns 3 1 (reachP bc br true others cell ss).length (ints (reachP bc br true others cell ss)) w) := by
  have hbr := (mul_bd h1 h2 h3 h4).2
  have g3 : cell < 25 := by omega
  have bx0 := Box.new w 54 #[.int .i64 bc, .int .i64 br]
  have Hof := hide hof
  clear hof
  go_enter Try.func37, Try.ntmps37
  go_wp2_with fail
  refine (sst_c _ _ _ _).mono ?_
  rintro e w1 ⟨rfl, hb1⟩
  have bx1 := bx0.then hb1
  have hb1 : Below w.heap.size w w1 := below_then ((Below.refl _ _).alloc (Nat.le_refl _) _) (by simp) hb1
  clear bx0
  go_wp2_with fail
  go_loopw [9, 17] (fun v i wr => ∃ (k : Nat) (acc : List Int), k ≤ ss.length ∧ i = .int .i64 k ∧ wr.ownsRow (w.heap.size + 1) 3 1 v acc.length (ints acc) ∧ Hid (acc = cellsP bc br true others cell (ss.take k)) ∧ acc.length ≤ 5 * k ∧
      Below w.heap.size w wr ∧ Box wr w.heap.size 54 #[.int .i64 bc, .int .i64 br]) (fun _ i _ => ss.length - (intOf i).toNat)
  case atStart => exact ⟨0, [], Nat.zero_le _, rfl, World.ownsRow_nil _ _ _ _, rfl, by simp, hb1, bx1⟩
  case round =>
    obtain ⟨k, acc, hk, rfl, hown, hacc, hal, hb, bx⟩ := hrel
    obtain ⟨wo, rfl⟩ : ∃ wo : World, wo = wr := ⟨_, rfl⟩
    have z := hb.size
    have zb := bx.in_
    have c0 := bx.cell 0
    have c1 := bx.cell 1
    by_cases hlt : k < ss.length
    · obtain ⟨hca, hcb⟩ := (hr.below hb).step hlt
      obtain ⟨dr, dc, hp⟩ : ∃ dr dc, ss[k] = (dr, dc) := ⟨_, _, rfl⟩
      have hok := hs.out _ (List.getElem_mem hlt)
      rw [hp] at hca hcb hok
      have HT : Hid (cellsP bc br true others cell (ss.take (k + 1)) = acc ++ goesP bc br true others cell (dr, dc)) := by
        rw [cells_snoc _ _ _ _ _ _ _ hlt, hp, hacc.out]; exact rfl
      have P := hide hp
      clear hp
      have OK := hide hok
      obtain ⟨⟨s1, s2⟩, ⟨s3, s4⟩, _⟩ := hok
      simp only at s1 s2 s3 s4 hca hcb
      go_wp2_with fail
      refine (onward_any bc br cell dr dc _ h1 h2 h3 h4 g1 g3 s1 s2 s3 s4).mono ?_
      rintro e w2 ⟨rfl, hb2⟩
      have bs2 := (Box.new wo 83 #[.int .i64 dr, .int .i64 dc]).then hb2
      have bx2 := (bx.alloc (.cells #[.int .i64 dr, .int .i64 dc] 83)).then hb2
      have own2 := own_below (hown.alloc (.cells #[.int .i64 dr, .int .i64 dc] 83)) hb2
      have hb2' : Below w.heap.size w w2 := below_then (hb.alloc z _) (by simp; omega) hb2
      have on1 := on_in (dr := dr) (dc := dc) (x := cell) h1 h2 h3 h4
      have on2 := pot_bd (bc := bc) (br := br) (dr := dr) (dc := dc) (x := (onP (nextP bc br dr dc cell)).1) h1 h2 h3 h4
      have HG : Hid (goesP bc br true others cell (dr, dc) = if (onP (nextP bc br dr dc cell)).2 = true then rayA bc br true others dr dc 5 (onP (nextP bc br dr dc cell)).1 else []) := goes_on ..
      generalize onP (nextP bc br dr dc cell) = q at *
      obtain ⟨y, on⟩ := q
      simp only at on1 on2 HG
      have hz2 := bs2.in_
      clear hb2 hca hcb c0 c1 zb
      go_wp2_with fail
      go_loopg [9, 12, 13] 5 (fun f v a b wr => ∃ (acc' : List Int) (x : Int) (o : Bool), a = .int .i64 x ∧ b = .bool o ∧ wr.ownsRow (w.heap.size + 1) 3 1 v acc'.length (ints acc') ∧ Hid (cellsP bc br true others cell (ss.take (k + 1)) = acc' ++ if o = true then rayA bc br true others dr dc f x else []) ∧
          acc'.length + f ≤ 5 * k + 5 ∧ Hid (o = true → (0 ≤ x ∧ x < bc * br) ∧ potP bc br dr dc x < f) ∧ Below w.heap.size w wr ∧ Box wr w.heap.size 54 #[.int .i64 bc, .int .i64 br] ∧ Box wr wo.heap.size 83 #[.int .i64 dr, .int .i64 dc])
      case atStart => exact ⟨acc, y, on, rfl, rfl, own2, by rw [HT.out, HG.out]; exact rfl, by omega, fun h => ⟨on1 h, by have := on2 (on1 h).1 (on1 h).2; omega⟩, hb2', bx2, bs2⟩
      case round =>
        obtain ⟨acc', x, o, rfl, rfl, hown', hacc', hal', hpot, hb', bx', bs'⟩ := hrel
        obtain ⟨wi, rfl⟩ : ∃ wi : World, wi = wr := ⟨_, rfl⟩
        cases o with
        | false =>
          go_wp2_with fail
          exact ⟨⟨k + 1, acc', hlt, rfl, hown', by rw [hacc'.out]; simp [Hid], by omega, hb', bx'⟩, by simp [intOf]; omega⟩
        | true =>
          obtain ⟨⟨x1, x2⟩, x3⟩ := hpot.out rfl
          have hp0 := (pot_bd (dr := dr) (dc := dc) h1 h2 h3 h4 x1 x2).1
          obtain ⟨f, rfl⟩ : ∃ f, gk = f + 1 := ⟨gk - 1, by omega⟩
          have hzi := hb'.size
          have z2 := bs'.in_
          have z3 := bx'.in_
          have hcon : ∀ w5 : World, Below w.heap.size w w5 → Calls Try.prog 55 #[.slice O others.length oc, .int .i64 x] w5 (Plain (.bool (others.contains x)) w5) := fun w5 h5 => contains_c O others oc x w5 (ho.below h5) Hof.out hol
          have Hcon := hide hcon
          clear hcon
          go_wp2_with ((at_builtin; refine put_own rfl (.tmp 29) (.tmp 31) rfl Try.underlying27 elem_int rfl (hown'.alloc _) rfl (m := 1) (news := [.int .i64 x]) rfl (row_new _ _ _ rfl) (by simp [Value.oneCell']) (by omega) (by omega) (by simp; omega) ?_; intro v3 w3 hown3 hg3 ho3))
          have hown' := hown'.alloc (.cells #[.int .i64 x] 3)
          have bx3 := bx'.alloc (.cells #[.int .i64 x] 3)
          have bs3 := bs'.alloc (.cells #[.int .i64 x] 3)
          have bx3 := bx3.grown hg3 (own_ne hown' bx3 (by decide))
          have bs3 := bs3.grown hg3 (own_ne hown' bs3 (by decide))
          have hb3 : Below w.heap.size w w3 := below_grown (hb'.alloc hzi _) (by simp; omega) hown' (by omega) hg3
          clear hg3 ho3 hown' bx' bs' hb' z2 z3 hzi
          refine (sfa_c _ _ _ _).mono ?_
          rintro e w4 ⟨rfl, hb4⟩
          have bx4 := bx3.then hb4
          have bs4 := bs3.then hb4
          have own4 := own_below hown3 hb4
          have hb4 := below_then hb3 hb3.size hb4
          clear bx3 bs3 hown3 hb3
          go_wp2_with fail
          refine (Hcon.out _ hb4).mono ?_
          rintro e w5 ⟨rfl, hb5⟩
          have bx5 := bx4.then hb5
          have bs5 := bs4.then hb5
          have own5 := own_below own4 hb5
          have hb5 := below_then hb4 hb4.size hb5
          clear bx4 bs4 own4 hb4
          have z5 := hb5.size
          have z6 := bs5.in_
          have z7 := bx5.in_
          cases hc : others.contains x with
          | true =>
            have HC := hide hc
            clear hc
            go_wp2_with fail
            exact ⟨⟨k + 1, acc' ++ [x], hlt, rfl, by simpa using own5, by rw [hacc'.out, if_pos trivial, ray_stop _ _ _ _ _ _ _ _ (by rw [HC.out]; simp)]; exact rfl, by simp; omega, hb5, bx5⟩, by simp [intOf]; omega⟩
          | false =>
            have HC := hide hc
            clear hc
            have c0 := bx5.cell 0
            have c1 := bx5.cell 1
            have d0 := bs5.cell 0
            have d1 := bs5.cell 1
            go_wp2_with fail
            refine (onward_any bc br x dr dc _ h1 h2 h3 h4 x1 (by omega) s1 s2 s3 s4).mono ?_
            rintro e w6 ⟨rfl, hb6⟩
            have on3 := on_in (dr := dr) (dc := dc) (x := x) h1 h2 h3 h4
            have on4 := on_pot (x := x) h1 h2 h3 h4 OK.out
            have HR : Hid (rayA bc br true others dr dc (f + 1) x = x :: (if (onP (nextP bc br dr dc x)).2 = true then rayA bc br true others dr dc f (onP (nextP bc br dr dc x)).1 else [])) := ray_step _ _ _ _ _ _ _ _ ⟨rfl, HC.out⟩
            generalize onP (nextP bc br dr dc x) = q at *
            obtain ⟨y', on'⟩ := q
            simp only at on3 on4 HR
            have On3 := hide on3
            have On4 := hide on4
            clear c0 c1 d0 d1 on3 on4
            have bx6 := bx5.then hb6
            have bs6 := bs5.then hb6
            have own6 := own_below own5 hb6
            have hb6 := below_then hb5 hb5.size hb6
            go_wp2_with fail
            go_roundg f
            case rel => exact ⟨acc' ++ [x], y', on', rfl, rfl, by simpa using own6, by rw [hacc'.out, if_pos trivial, HR.out]; simp [Hid], by simp; omega, fun h => ⟨On3.out h, by have := On4.out h; omega⟩, hb6, bx6, bs6⟩
            case measure => omega
    · have hk2 : Hid (k = ss.length) := hide (by omega)
      go_wp2_with fail
      refine (sort_c _ _ acc _ hown (by omega)).mono ?_
      rintro e w2 ⟨rfl, hown2, hg2⟩
      have hb2 := below_grown hb z hown (by omega) hg2
      have hlen : (reachP bc br true others cell ss).length = acc.length := by
        rw [hacc.out, hk2.out, List.take_of_length_le (Nat.le_refl _)]; exact List.length_mergeSort ..
      have hlist : reachP bc br true others cell ss = acc.mergeSort fun x y => decide (x ≤ y) := by
        rw [hacc.out, hk2.out, List.take_of_length_le (Nat.le_refl _)]; rfl
      have HE : Hid (w2.ownsRow w.heap.size 3 1 u9 (reachP bc br true others cell ss).length (ints (reachP bc br true others cell ss))) := by
        rw [hlen, hlist]; exact own_mono hown2 (by omega)
      clear hlen hlist hown2 hg2
      go_wp2_with fail
      go_ret
      exact ⟨_, rfl, HE.out, hb2⟩
end Go.Proofs.Ytdjkdjnbmhpokab
