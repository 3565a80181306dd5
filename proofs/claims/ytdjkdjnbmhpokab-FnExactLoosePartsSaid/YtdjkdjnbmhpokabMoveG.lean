
/-
  Boards: reach, of leapers and of all.
-/
import Derived.Test.YtdjkdjnbmhpokabMoveF
namespace Go.Proofs.Ytdjkdjnbmhpokab
open Go.RowKit
set_option linter.unusedVariables false

set_option maxHeartbeats 1000000 in
set_option maxRecDepth 100000 in
theorem reach_near (bc br cell : Int) (g : Nat) (O : Option Addr) (c oc : Nat) (ss : List (Int × Int)) (others : List Int) (w : World) (h1 : 1 ≤ bc) (h2 : bc ≤ 5) (h3 : 1 ≤ br) (h4 : br ≤ 5)
    (g1 : 0 ≤ cell) (g2 : cell < bc * br) (hs : Hid (∀ p ∈ ss, okStep p)) (hn : ss.length ≤ 8) (hr : Row w (some ⟨g, 0, none⟩) (flat ss)) (ho : Row w O (ints others)) (hof : Flat O) (hol : others.length ≤ maxLen) :
    Calls Try.prog 37 #[boardV bc br, .iface 98 (.agg #[.slice (some ⟨g, 0, none⟩) ss.length c]), .int .i64 cell, .slice O others.length oc] w (Owns 3 1 (reachP bc br false others cell ss).length (ints (reachP bc br false others cell ss)) w) := by
  have hbr := (mul_bd h1 h2 h3 h4).2
  have g3 : cell < 25 := by omega
  have bx0 := Box.new w 54 #[.int .i64 bc, .int .i64 br]
  have Hof := hide hof
  clear hof
  go_enter Try.func37, Try.ntmps37
  go_wp2_with fail
  refine (lst_c _ _ _ _).mono ?_
  rintro e w1 ⟨rfl, hb1⟩
  have bx1 := bx0.then hb1
  have hb1 : Below w.heap.size w w1 := below_then ((Below.refl _ _).alloc (Nat.le_refl _) _) (by simp) hb1
  clear bx0
  go_wp2_with fail
  go_loopw [9, 17] (fun v i wr => ∃ (k : Nat) (acc : List Int), k ≤ ss.length ∧ i = .int .i64 k ∧ wr.ownsRow (w.heap.size + 1) 3 1 v acc.length (ints acc) ∧ Hid (acc = cellsP bc br false others cell (ss.take k)) ∧ acc.length ≤ 5 * k ∧
      Below w.heap.size w wr ∧ Box wr w.heap.size 54 #[.int .i64 bc, .int .i64 br]) (fun _ i _ => ss.length - (intOf i).toNat)
  case atStart => exact ⟨0, [], Nat.zero_le _, rfl, World.ownsRow_nil _ _ _ _, rfl, by simp, hb1, bx1⟩
  case round =>
    obtain ⟨k, acc, hk, rfl, hown, hacc, hal, hb, bx⟩ := hrel
    obtain ⟨wo, rfl⟩ : ∃ wo : World, wo = wr := ⟨_, rfl⟩
    have z := hb.size
    have zb := bx.in_
    have c0 := bx.cell 0
    have c1 := bx.cell 1
    by_cases hlt : k < ss.length
    · obtain ⟨hca, hcb⟩ := (hr.below hb).step hlt
      obtain ⟨dr, dc, hp⟩ : ∃ dr dc, ss[k] = (dr, dc) := ⟨_, _, rfl⟩
      have hok := hs.out _ (List.getElem_mem hlt)
      rw [hp] at hca hcb hok
      have HT : Hid (cellsP bc br false others cell (ss.take (k + 1)) = acc ++ goesP bc br false others cell (dr, dc)) := by
        rw [cells_snoc _ _ _ _ _ _ _ hlt, hp, hacc.out]; exact rfl
      have P := hide hp
      clear hp
      have OK := hide hok
      obtain ⟨⟨s1, s2⟩, ⟨s3, s4⟩, _⟩ := hok
      simp only at s1 s2 s3 s4 hca hcb
      go_wp2_with fail
      refine (onward_any bc br cell dr dc _ h1 h2 h3 h4 g1 g3 s1 s2 s3 s4).mono ?_
      rintro e w2 ⟨rfl, hb2⟩
      have bs2 := (Box.new wo 83 #[.int .i64 dr, .int .i64 dc]).then hb2
      have bx2 := (bx.alloc (.cells #[.int .i64 dr, .int .i64 dc] 83)).then hb2
      have own2 := own_below (hown.alloc (.cells #[.int .i64 dr, .int .i64 dc] 83)) hb2
      have hb2' : Below w.heap.size w w2 := below_then (hb.alloc z _) (by simp; omega) hb2
      have on1 := on_in (dr := dr) (dc := dc) (x := cell) h1 h2 h3 h4
      have on2 := pot_bd (bc := bc) (br := br) (dr := dr) (dc := dc) (x := (onP (nextP bc br dr dc cell)).1) h1 h2 h3 h4
      have HG : Hid (goesP bc br false others cell (dr, dc) = if (onP (nextP bc br dr dc cell)).2 = true then rayA bc br false others dr dc 5 (onP (nextP bc br dr dc cell)).1 else []) := goes_on ..
      generalize onP (nextP bc br dr dc cell) = q at *
      obtain ⟨y, on⟩ := q
      simp only at on1 on2 HG
      have hz2 := bs2.in_
      clear hb2 hca hcb c0 c1 zb
      go_wp2_with fail
      go_loopg [9, 12, 13] 5 (fun f v a b wr => ∃ (acc' : List Int) (x : Int) (o : Bool), a = .int .i64 x ∧ b = .bool o ∧ wr.ownsRow (w.heap.size + 1) 3 1 v acc'.length (ints acc') ∧ Hid (cellsP bc br false others cell (ss.take (k + 1)) = acc' ++ if o = true then rayA bc br false others dr dc f x else []) ∧
          acc'.length + f ≤ 5 * k + 5 ∧ Hid (o = true → (0 ≤ x ∧ x < bc * br) ∧ potP bc br dr dc x < f) ∧ Below w.heap.size w wr ∧ Box wr w.heap.size 54 #[.int .i64 bc, .int .i64 br] ∧ Box wr wo.heap.size 83 #[.int .i64 dr, .int .i64 dc])
      case atStart => exact ⟨acc, y, on, rfl, rfl, own2, by rw [HT.out, HG.out]; exact rfl, by omega, fun h => ⟨on1 h, by have := on2 (on1 h).1 (on1 h).2; omega⟩, hb2', bx2, bs2⟩
      case round =>
        obtain ⟨acc', x, o, rfl, rfl, hown', hacc', hal', hpot, hb', bx', bs'⟩ := hrel
        obtain ⟨wi, rfl⟩ : ∃ wi : World, wi = wr := ⟨_, rfl⟩
        cases o with
        | false =>
          go_wp2_with fail
          exact ⟨⟨k + 1, acc', hlt, rfl, hown', by rw [hacc'.out]; simp [Hid], by omega, hb', bx'⟩, by simp [intOf]; omega⟩
        | true =>
          obtain ⟨⟨x1, x2⟩, x3⟩ := hpot.out rfl
          have hp0 := (pot_bd (dr := dr) (dc := dc) h1 h2 h3 h4 x1 x2).1
          obtain ⟨f, rfl⟩ : ∃ f, gk = f + 1 := ⟨gk - 1, by omega⟩
          have hzi := hb'.size
          have z2 := bs'.in_
          have z3 := bx'.in_
          go_wp2_with ((at_builtin; refine put_own rfl (.tmp 29) (.tmp 31) rfl Try.underlying27 elem_int rfl (hown'.alloc _) rfl (m := 1) (news := [.int .i64 x]) rfl (row_new _ _ _ rfl) (by simp [Value.oneCell']) (by omega) (by omega) (by simp; omega) ?_; intro v3 w3 hown3 hg3 ho3))
          have hown' := hown'.alloc (.cells #[.int .i64 x] 3)
          have bx3 := bx'.alloc (.cells #[.int .i64 x] 3)
          have bs3 := bs'.alloc (.cells #[.int .i64 x] 3)
          have bx3 := bx3.grown hg3 (own_ne hown' bx3 (by decide))
          have bs3 := bs3.grown hg3 (own_ne hown' bs3 (by decide))
          have hb3 : Below w.heap.size w w3 := below_grown (hb'.alloc hzi _) (by simp; omega) hown' (by omega) hg3
          clear hg3 ho3 hown' bx' bs' hb' z2 z3 hzi
          refine (lfa_c _ _ _ _).mono ?_
          rintro e w4 ⟨rfl, hb4⟩
          have bx4 := bx3.then hb4
          have bs4 := bs3.then hb4
          have own4 := own_below hown3 hb4
          have hb4 := below_then hb3 hb3.size hb4
          clear bx3 bs3 hown3 hb3
          have z5 := hb4.size
          go_wp2_with fail
          exact ⟨⟨k + 1, acc' ++ [x], hlt, rfl, by simpa using own4, by rw [hacc'.out, if_pos trivial, ray_stop _ _ _ _ _ _ _ _ (by simp)]; exact rfl, by simp; omega, hb4, bx4⟩, by simp [intOf]; omega⟩
    · have hk2 : Hid (k = ss.length) := hide (by omega)
      go_wp2_with fail
      refine (sort_c _ _ acc _ hown (by omega)).mono ?_
      rintro e w2 ⟨rfl, hown2, hg2⟩
      have hb2 := below_grown hb z hown (by omega) hg2
      have hlen : (reachP bc br false others cell ss).length = acc.length := by
        rw [hacc.out, hk2.out, List.take_of_length_le (Nat.le_refl _)]; exact List.length_mergeSort ..
      have hlist : reachP bc br false others cell ss = acc.mergeSort fun x y => decide (x ≤ y) := by
        rw [hacc.out, hk2.out, List.take_of_length_le (Nat.le_refl _)]; rfl
      have HE : Hid (w2.ownsRow w.heap.size 3 1 u9 (reachP bc br false others cell ss).length (ints (reachP bc br false others cell ss))) := by
        rw [hlen, hlist]; exact own_mono hown2 (by omega)
      clear hlen hlist hown2 hg2
      go_wp2_with fail
      go_ret
      exact ⟨_, rfl, HE.out, hb2⟩
/-- REACH: whatever the piece. -/
theorem reach_c (bc br cell : Int) (B : Nat) (pv : Value) (far : Bool) (O : Option Addr) (oc : Nat) (ss : List (Int × Int)) (others : List Int) (w : World) (h1 : 1 ≤ bc) (h2 : bc ≤ 5) (h3 : 1 ≤ br) (h4 : br ≤ 5)
    (g1 : 0 ≤ cell) (g2 : cell < bc * br) (hs : Hid (∀ p ∈ ss, okStep p)) (hn : ss.length ≤ 8) (hp : IsPiece w B pv ss far) (ho : Row w O (ints others)) (hof : Flat O) (hol : others.length ≤ maxLen) :
    Calls Try.prog 37 #[boardV bc br, pv, .int .i64 cell, .slice O others.length oc] w (Owns 3 1 (reachP bc br far others cell ss).length (ints (reachP bc br far others cell ss)) w) := by
  obtain ⟨g, c, rfl, hr, _⟩ := hp
  cases far with
  | true => exact reach_far bc br cell g O c oc ss others w h1 h2 h3 h4 g1 g2 hs hn hr ho hof hol
  | false => exact reach_near bc br cell g O c oc ss others w h1 h2 h3 h4 g1 g2 hs hn hr ho hof hol
end Go.Proofs.Ytdjkdjnbmhpokab
