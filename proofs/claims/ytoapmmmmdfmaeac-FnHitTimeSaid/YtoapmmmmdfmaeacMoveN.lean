/-
  Sorted, MoveF, MoveG, MoveH, LawsA, Repeat, MovesA, MovesC, MovesB, MovesD in one text.
-/
import Derived.Test.YtoapmmmmdfmaeacBase
import Derived.Test.YtoapmmmmdfmaeacProg
import Derived.Test.YtoapmmmmdfmaeacShelf
import Derived.Test.YtoapmmmmdfmaeacMoveM
import Derived.Test.YtoapmmmmdfmaeacPureM
import Derived.Deep.LoopGhost
import Derived.Test.YtoapmmmmdfmaeacSpecM
import Derived.RegionTactic
import Derived.Deep.QuietTactic
import Derived.BigQuiet
import Derived.ProofKit
import Derived.Handy
import Derived.Laws.CopyOwn
import Derived.OwnWalk
import Derived.Deep.OwnRows
import Derived.Deep.RegionLaw
import Derived.StillTailTactics
/-
  slices.Sort at a row that the call itself owns; sorted lists of numbers.
-/
namespace Go.Proofs.Ytoapmmmmdfmaeac
open Go.RowKit Go.Sort
set_option linter.unusedVariables false

def Sorts (v : Value) (base : Nat) (l : List Int) (w : World) (e : Ending) (w' : World) : Prop :=
  e = .returned (.tuple #[]) ∧ w'.ownsRow base 3 1 v l.length (ints (l.mergeSort fun x y => decide (x ≤ y))) ∧ w.grownBy w' v.ownBlock

theorem sort_c (v : Value) (base : Nat) (l : List Int) (w : World) (hown : w.ownsRow base 3 1 v l.length (ints l)) (hl : l.length ≤ 1099511627776) : Calls Try.prog 55 #[v] w (Sorts v base l w) := by
  rcases hown.2 with ⟨rfl, h0⟩ | ⟨g, cap, cur, rfl, hb, hg, hn, hm, hs, ht⟩
  · obtain rfl : l = [] := List.eq_nil_of_length_eq_zero h0
    exact (Try.slices_Sort_int_none none 0 w).mono fun e w' ⟨he, hw⟩ => ⟨he, by subst hw; simpa using hown, by subst hw; exact World.grownBy.refl _ _⟩
  · have hgl : g < w.heap.size := (Array.getElem?_eq_some_iff.1 hg).1
    have hH : Holds (Value.int .i64) w g 0 l.toArray := fun j hj => by
      have hj' : j < l.length := by simpa using hj
      refine ⟨?_, by simp [World.frozen?, hg]⟩
      have := hown.cells (g := g) rfl j (.int .i64 l[j]) (by simp [List.getElem?_eq_getElem hj'])
      rw [show (⟨g, 0, none⟩ : Addr).add j = ⟨g, 0 + j, none⟩ from by unfold Addr.add; split <;> simp_all] at this
      rw [this, getElem!_pos l.toArray j hj]
      simp
    refine (Try.slices_Sort_int g 0 cap l w hH hgl (by omega)).mono ?_
    rintro e w' ⟨rfl, n, os, rfl⟩
    have hsize : (Sort.putRow (Value.int .i64) (Sort.ahead w n) g 0 (l.mergeSort fun x y => decide (x ≤ y)).toArray).heap.size = w.heap.size := by simp [putRow, mapBlock, Sort.ahead]
    have hheap : ∀ k, k < w.heap.size → (Sort.grow (Sort.putRow (Value.int .i64) (Sort.ahead w n) g 0 (l.mergeSort fun x y => decide (x ≤ y)).toArray) os).heap[k]? = if g = k then (w.heap[k]?).map (onCells (putCells (Value.int .i64) 0 (l.mergeSort fun x y => decide (x ≤ y)).toArray)) else w.heap[k]? := fun k hk => by
      rw [heap_grow_old _ _ (by rw [hsize]; exact hk)]
      simp [putRow, mapBlock, Sort.ahead, Array.getElem?_modify]
    refine ⟨rfl, ⟨by simp, .inr ⟨g, cap, putCells (Value.int .i64) 0 (l.mergeSort fun x y => decide (x ≤ y)).toArray cur, rfl, hb, ?_, hn, hm, by simpa [putCells] using hs, ?_⟩⟩, ⟨rfl, rfl, rfl, ?_, ?_⟩⟩
    · rw [hheap g hgl, if_pos rfl, hg]; rfl
    · have hlen : (l.mergeSort fun x y => decide (x ≤ y)).length = l.length := List.length_mergeSort ..
      apply List.ext_getElem?
      intro j
      rw [List.getElem?_take]
      by_cases hj : j < l.length
      · have hc : j < cur.size := by omega
        rw [if_pos (by omega)]
        simp only [putCells, Array.toList_mapIdx, List.getElem?_mapIdx, List.size_toArray, hlen, Nat.zero_le, true_and, Nat.zero_add, Nat.sub_zero]
        rw [show cur.toList[j]? = some cur[j] from by simp [Array.getElem?_eq_getElem hc]]
        simp only [Option.map_some, if_pos hj]
        rw [getElem!_pos _ _ (by simpa [hlen] using hj)]
        simp only [List.getElem_toArray, ints, List.getElem?_map]
        rw [List.getElem?_eq_getElem (by omega)]
        rfl
      · rw [if_neg (by omega)]
        symm
        rw [List.getElem?_eq_none]
        simp only [ints, List.length_map, hlen]
        omega
    · rw [size_grow, hsize]; omega
    · intro k hk hne
      rw [hheap k hk, if_neg]
      rintro rfl
      exact hne rfl
end Go.Proofs.Ytoapmmmmdfmaeac

/-
  Boards: reach.
-/
namespace Go.Proofs.Ytoapmmmmdfmaeac
open Go.RowKit
set_option linter.unusedVariables false

theorem elem_int : Elem Try.prog 3 1 8 := Elem.of (z := .int .i64 0) (by kernel_rfl) rfl (by omega)

theorem onward_any (bc br cell dr dc : Int) (w : World) (h1 : 1 ≤ bc) (h2 : bc ≤ 5) (h3 : 1 ≤ br) (h4 : br ≤ 5) (g1 : 0 ≤ cell) (g2 : cell < 25) (g3 : -2 ≤ dr) (g4 : dr ≤ 2) (g5 : -2 ≤ dc) (g6 : dc ≤ 2) :
    Calls Try.prog 53 #[boardV bc br, .int .i64 cell, .agg #[.int .i64 dr, .int .i64 dc]] w (Plain (.tuple #[.int .i64 (onP (nextP bc br dr dc cell)).1, .bool (onP (nextP bc br dr dc cell)).2]) w) := by
  unfold nextP
  by_cases h : 0 ≤ cell / bc + dr ∧ cell / bc + dr < br ∧ 0 ≤ cell % bc + dc ∧ cell % bc + dc < bc
  · rw [if_pos h]
    obtain ⟨a, b, c, d⟩ := h
    exact onward_yes bc br cell dr dc w h1 h2 h3 h4 g1 g2 g3 g4 g5 g6 a b c d
  · rw [if_neg h]
    exact onward_no bc br cell dr dc w h1 h2 h3 h4 g1 g2 g3 g4 g5 g6 h

/-- The address is a plain one. -/
def Flat (O : Option Addr) : Prop := ∀ ad, O = some ad → ∃ b off, ad = ⟨b, off, none⟩
theorem contains_c (O : Option Addr) (l : List Int) (oc : Nat) (x : Int) (w : World) (hr : Row w O (ints l)) (hf : Flat O) (hm : l.length ≤ maxLen) :
    Calls Try.prog 54 #[.slice O l.length oc, .int .i64 x] w (Plain (.bool (l.contains x)) w) := by
  rcases l with _ | ⟨y, l⟩
  · exact (Try.slices_Contains_int_empty O oc x w).mono fun e w' ⟨he, hw⟩ => ⟨he, hw ▸ Below.refl _ _⟩
  · obtain ⟨ad, rfl, _⟩ := hr 0 (by simp)
    obtain ⟨b, off, rfl⟩ := hf ad rfl
    unfold maxLen at hm
    refine (Try.slices_Contains_int b off (y :: l).length oc (y :: l) x w (Nat.le_refl _) (by omega) fun j hj => ?_).mono fun e w' ⟨he, hw⟩ => ⟨by simpa using he, hw ▸ Below.refl _ _⟩
    obtain ⟨_, ⟨rfl⟩, hc⟩ := hr.int hj
    rw [← List.getD_eq_getElem?_getD] at hc
    rw [← hc]
    unfold Addr.add
    split
    · subst_vars; rfl
    · rfl

set_option maxHeartbeats 1000000 in
set_option maxRecDepth 100000 in
theorem reach_far (bc br cell : Int) (g : Nat) (O : Option Addr) (c oc : Nat) (ss : List (Int × Int)) (others : List Int) (w : World) (h1 : 1 ≤ bc) (h2 : bc ≤ 5) (h3 : 1 ≤ br) (h4 : br ≤ 5)
    (g1 : 0 ≤ cell) (g2 : cell < bc * br) (hs : Hid (∀ p ∈ ss, okStep p)) (hn : ss.length ≤ 8) (hr : Row w (some ⟨g, 0, none⟩) (flat ss)) (ho : Row w O (ints others)) (hof : Flat O) (hol : others.length ≤ maxLen) :
    Calls Try.prog 28 #[boardV bc br, .iface 105 (.agg #[.slice (some ⟨g, 0, none⟩) ss.length c]), .int .i64 cell, .slice O others.length oc] w (Owns 3 1 (reachP bc br true others cell ss).length (ints (reachP bc br true others cell ss)) w) := by
  have hbr := (mul_bd h1 h2 h3 h4).2
  have g3 : cell < 25 := by omega
  have bx0 := Box.new w 52 #[.int .i64 bc, .int .i64 br]
  have Hof := hide hof
  clear hof
  go_enter Try.func28, Try.ntmps28
  go_wp2_with fail
  refine (sst_c _ _ _ _).mono ?_
  rintro e w1 ⟨rfl, hb1⟩
  have bx1 := bx0.then hb1
  have hb1 : Below w.heap.size w w1 := below_then ((Below.refl _ _).alloc (Nat.le_refl _) _) (by simp) hb1
  clear bx0
  go_wp2_with fail
  go_loopw [9, 17] (fun v i wr => ∃ (k : Nat) (acc : List Int), k ≤ ss.length ∧ i = .int .i64 k ∧ wr.ownsRow (w.heap.size + 1) 3 1 v acc.length (ints acc) ∧ Hid (acc = cellsP bc br true others cell (ss.take k)) ∧ acc.length ≤ 5 * k ∧
      Below w.heap.size w wr ∧ Box wr w.heap.size 52 #[.int .i64 bc, .int .i64 br]) (fun _ i _ => ss.length - (intOf i).toNat)
  case atStart => exact ⟨0, [], Nat.zero_le _, rfl, World.ownsRow_nil _ _ _ _, rfl, by simp, hb1, bx1⟩
  case round =>
    obtain ⟨k, acc, hk, rfl, hown, hacc, hal, hb, bx⟩ := hrel
    obtain ⟨wo, rfl⟩ : ∃ wo : World, wo = wr := ⟨_, rfl⟩
    have z := hb.size
    have zb := bx.in_
    have c0 := bx.cell 0
    have c1 := bx.cell 1
    by_cases hlt : k < ss.length
    · obtain ⟨hca, hcb⟩ := (hr.below hb).step hlt
      obtain ⟨dr, dc, hp⟩ : ∃ dr dc, ss[k] = (dr, dc) := ⟨_, _, rfl⟩
      have hok := hs.out _ (List.getElem_mem hlt)
      rw [hp] at hca hcb hok
      have HT : Hid (cellsP bc br true others cell (ss.take (k + 1)) = acc ++ goesP bc br true others cell (dr, dc)) := by
        rw [cells_snoc _ _ _ _ _ _ _ hlt, hp, hacc.out]; exact rfl
      have P := hide hp
      clear hp
      have OK := hide hok
      obtain ⟨⟨s1, s2⟩, ⟨s3, s4⟩, _⟩ := hok
      simp only at s1 s2 s3 s4 hca hcb
      go_wp2_with fail
      refine (onward_any bc br cell dr dc _ h1 h2 h3 h4 g1 g3 s1 s2 s3 s4).mono ?_
      rintro e w2 ⟨rfl, hb2⟩
      have bs2 := (Box.new wo 89 #[.int .i64 dr, .int .i64 dc]).then hb2
      have bx2 := (bx.alloc (.cells #[.int .i64 dr, .int .i64 dc] 89)).then hb2
      have own2 := own_below (hown.alloc (.cells #[.int .i64 dr, .int .i64 dc] 89)) hb2
      have hb2' : Below w.heap.size w w2 := below_then (hb.alloc z _) (by simp; omega) hb2
      have on1 := on_in (dr := dr) (dc := dc) (x := cell) h1 h2 h3 h4
      have on2 := pot_bd (bc := bc) (br := br) (dr := dr) (dc := dc) (x := (onP (nextP bc br dr dc cell)).1) h1 h2 h3 h4
      have HG : Hid (goesP bc br true others cell (dr, dc) = if (onP (nextP bc br dr dc cell)).2 = true then rayA bc br true others dr dc 5 (onP (nextP bc br dr dc cell)).1 else []) := goes_on ..
      generalize onP (nextP bc br dr dc cell) = q at *
      obtain ⟨y, on⟩ := q
      simp only at on1 on2 HG
      have hz2 := bs2.in_
      clear hb2 hca hcb c0 c1 zb
      go_wp2_with fail
      go_loopg [9, 12, 13] 5 (fun f v a b wr => ∃ (acc' : List Int) (x : Int) (o : Bool), a = .int .i64 x ∧ b = .bool o ∧ wr.ownsRow (w.heap.size + 1) 3 1 v acc'.length (ints acc') ∧ Hid (cellsP bc br true others cell (ss.take (k + 1)) = acc' ++ if o = true then rayA bc br true others dr dc f x else []) ∧
          acc'.length + f ≤ 5 * k + 5 ∧ Hid (o = true → (0 ≤ x ∧ x < bc * br) ∧ potP bc br dr dc x < f) ∧ Below w.heap.size w wr ∧ Box wr w.heap.size 52 #[.int .i64 bc, .int .i64 br] ∧ Box wr wo.heap.size 89 #[.int .i64 dr, .int .i64 dc])
      case atStart => exact ⟨acc, y, on, rfl, rfl, own2, by rw [HT.out, HG.out]; exact rfl, by omega, fun h => ⟨on1 h, by have := on2 (on1 h).1 (on1 h).2; omega⟩, hb2', bx2, bs2⟩
      case round =>
        obtain ⟨acc', x, o, rfl, rfl, hown', hacc', hal', hpot, hb', bx', bs'⟩ := hrel
        obtain ⟨wi, rfl⟩ : ∃ wi : World, wi = wr := ⟨_, rfl⟩
        cases o with
        | false =>
          go_wp2_with fail
          exact ⟨⟨k + 1, acc', hlt, rfl, hown', by rw [hacc'.out]; simp [Hid], by omega, hb', bx'⟩, by simp [intOf]; omega⟩
        | true =>
          obtain ⟨⟨x1, x2⟩, x3⟩ := hpot.out rfl
          have hp0 := (pot_bd (dr := dr) (dc := dc) h1 h2 h3 h4 x1 x2).1
          obtain ⟨f, rfl⟩ : ∃ f, gk = f + 1 := ⟨gk - 1, by omega⟩
          have hzi := hb'.size
          have z2 := bs'.in_
          have z3 := bx'.in_
          have hcon : ∀ w5 : World, Below w.heap.size w w5 → Calls Try.prog 54 #[.slice O others.length oc, .int .i64 x] w5 (Plain (.bool (others.contains x)) w5) := fun w5 h5 => contains_c O others oc x w5 (ho.below h5) Hof.out hol
          have Hcon := hide hcon
          clear hcon
          go_wp2_with ((at_builtin; refine put_own rfl (.tmp 29) (.tmp 31) rfl Try.underlying30 elem_int rfl (hown'.alloc _) rfl (m := 1) (news := [.int .i64 x]) rfl (row_new _ _ _ rfl) (by simp [Value.oneCell']) (by omega) (by omega) (by simp; omega) ?_; intro v3 w3 hown3 hg3 ho3))
          have hown' := hown'.alloc (.cells #[.int .i64 x] 3)
          have bx3 := bx'.alloc (.cells #[.int .i64 x] 3)
          have bs3 := bs'.alloc (.cells #[.int .i64 x] 3)
          have bx3 := bx3.grown hg3 (own_ne hown' bx3 (by decide))
          have bs3 := bs3.grown hg3 (own_ne hown' bs3 (by decide))
          have hb3 : Below w.heap.size w w3 := below_grown (hb'.alloc hzi _) (by simp; omega) hown' (by omega) hg3
          clear hg3 ho3 hown' bx' bs' hb' z2 z3 hzi
          refine (sfa_c _ _ _ _).mono ?_
          rintro e w4 ⟨rfl, hb4⟩
          have bx4 := bx3.then hb4
          have bs4 := bs3.then hb4
          have own4 := own_below hown3 hb4
          have hb4 := below_then hb3 hb3.size hb4
          clear bx3 bs3 hown3 hb3
          go_wp2_with fail
          refine (Hcon.out _ hb4).mono ?_
          rintro e w5 ⟨rfl, hb5⟩
          have bx5 := bx4.then hb5
          have bs5 := bs4.then hb5
          have own5 := own_below own4 hb5
          have hb5 := below_then hb4 hb4.size hb5
          clear bx4 bs4 own4 hb4
          have z5 := hb5.size
          have z6 := bs5.in_
          have z7 := bx5.in_
          cases hc : others.contains x with
          | true =>
            have HC := hide hc
            clear hc
            go_wp2_with fail
            exact ⟨⟨k + 1, acc' ++ [x], hlt, rfl, by simpa using own5, by rw [hacc'.out, if_pos trivial, ray_stop _ _ _ _ _ _ _ _ (by rw [HC.out]; simp)]; exact rfl, by simp; omega, hb5, bx5⟩, by simp [intOf]; omega⟩
          | false =>
            have HC := hide hc
            clear hc
            have c0 := bx5.cell 0
            have c1 := bx5.cell 1
            have d0 := bs5.cell 0
            have d1 := bs5.cell 1
            go_wp2_with fail
            refine (onward_any bc br x dr dc _ h1 h2 h3 h4 x1 (by omega) s1 s2 s3 s4).mono ?_
            rintro e w6 ⟨rfl, hb6⟩
            have on3 := on_in (dr := dr) (dc := dc) (x := x) h1 h2 h3 h4
            have on4 := on_pot (x := x) h1 h2 h3 h4 OK.out
            have HR : Hid (rayA bc br true others dr dc (f + 1) x = x :: (if (onP (nextP bc br dr dc x)).2 = true then rayA bc br true others dr dc f (onP (nextP bc br dr dc x)).1 else [])) := ray_step _ _ _ _ _ _ _ _ ⟨rfl, HC.out⟩
            generalize onP (nextP bc br dr dc x) = q at *
            obtain ⟨y', on'⟩ := q
            simp only at on3 on4 HR
            have On3 := hide on3
            have On4 := hide on4
            clear c0 c1 d0 d1 on3 on4
            have bx6 := bx5.then hb6
            have bs6 := bs5.then hb6
            have own6 := own_below own5 hb6
            have hb6 := below_then hb5 hb5.size hb6
            go_wp2_with fail
            go_roundg f
            case rel => exact ⟨acc' ++ [x], y', on', rfl, rfl, by simpa using own6, by rw [hacc'.out, if_pos trivial, HR.out]; simp [Hid], by simp; omega, fun h => ⟨On3.out h, by have := On4.out h; omega⟩, hb6, bx6, bs6⟩
            case measure => omega
    · have hk2 : Hid (k = ss.length) := hide (by omega)
      go_wp2_with fail
      refine (sort_c _ _ acc _ hown (by omega)).mono ?_
      rintro e w2 ⟨rfl, hown2, hg2⟩
      have hb2 := below_grown hb z hown (by omega) hg2
      have hlen : (reachP bc br true others cell ss).length = acc.length := by
        rw [hacc.out, hk2.out, List.take_of_length_le (Nat.le_refl _)]; exact List.length_mergeSort ..
      have hlist : reachP bc br true others cell ss = acc.mergeSort fun x y => decide (x ≤ y) := by
        rw [hacc.out, hk2.out, List.take_of_length_le (Nat.le_refl _)]; rfl
      have HE : Hid (w2.ownsRow w.heap.size 3 1 u9 (reachP bc br true others cell ss).length (ints (reachP bc br true others cell ss))) := by
        rw [hlen, hlist]; exact own_mono hown2 (by omega)
      clear hlen hlist hown2 hg2
      go_wp2_with fail
      go_ret
      exact ⟨_, rfl, HE.out, hb2⟩
end Go.Proofs.Ytoapmmmmdfmaeac

/-
  Boards: reach, of leapers and of all.
-/
namespace Go.Proofs.Ytoapmmmmdfmaeac
open Go.RowKit
set_option linter.unusedVariables false

set_option maxHeartbeats 1000000 in
set_option maxRecDepth 100000 in
theorem reach_near (bc br cell : Int) (g : Nat) (O : Option Addr) (c oc : Nat) (ss : List (Int × Int)) (others : List Int) (w : World) (h1 : 1 ≤ bc) (h2 : bc ≤ 5) (h3 : 1 ≤ br) (h4 : br ≤ 5)
    (g1 : 0 ≤ cell) (g2 : cell < bc * br) (hs : Hid (∀ p ∈ ss, okStep p)) (hn : ss.length ≤ 8) (hr : Row w (some ⟨g, 0, none⟩) (flat ss)) (ho : Row w O (ints others)) (hof : Flat O) (hol : others.length ≤ maxLen) :
    Calls Try.prog 28 #[boardV bc br, .iface 103 (.agg #[.slice (some ⟨g, 0, none⟩) ss.length c]), .int .i64 cell, .slice O others.length oc] w (Owns 3 1 (reachP bc br false others cell ss).length (ints (reachP bc br false others cell ss)) w) := by
  have hbr := (mul_bd h1 h2 h3 h4).2
  have g3 : cell < 25 := by omega
  have bx0 := Box.new w 52 #[.int .i64 bc, .int .i64 br]
  have Hof := hide hof
  clear hof
  go_enter Try.func28, Try.ntmps28
  go_wp2_with fail
  refine (lst_c _ _ _ _).mono ?_
  rintro e w1 ⟨rfl, hb1⟩
  have bx1 := bx0.then hb1
  have hb1 : Below w.heap.size w w1 := below_then ((Below.refl _ _).alloc (Nat.le_refl _) _) (by simp) hb1
  clear bx0
  go_wp2_with fail
  go_loopw [9, 17] (fun v i wr => ∃ (k : Nat) (acc : List Int), k ≤ ss.length ∧ i = .int .i64 k ∧ wr.ownsRow (w.heap.size + 1) 3 1 v acc.length (ints acc) ∧ Hid (acc = cellsP bc br false others cell (ss.take k)) ∧ acc.length ≤ 5 * k ∧
      Below w.heap.size w wr ∧ Box wr w.heap.size 52 #[.int .i64 bc, .int .i64 br]) (fun _ i _ => ss.length - (intOf i).toNat)
  case atStart => exact ⟨0, [], Nat.zero_le _, rfl, World.ownsRow_nil _ _ _ _, rfl, by simp, hb1, bx1⟩
  case round =>
    obtain ⟨k, acc, hk, rfl, hown, hacc, hal, hb, bx⟩ := hrel
    obtain ⟨wo, rfl⟩ : ∃ wo : World, wo = wr := ⟨_, rfl⟩
    have z := hb.size
    have zb := bx.in_
    have c0 := bx.cell 0
    have c1 := bx.cell 1
    by_cases hlt : k < ss.length
    · obtain ⟨hca, hcb⟩ := (hr.below hb).step hlt
      obtain ⟨dr, dc, hp⟩ : ∃ dr dc, ss[k] = (dr, dc) := ⟨_, _, rfl⟩
      have hok := hs.out _ (List.getElem_mem hlt)
      rw [hp] at hca hcb hok
      have HT : Hid (cellsP bc br false others cell (ss.take (k + 1)) = acc ++ goesP bc br false others cell (dr, dc)) := by
        rw [cells_snoc _ _ _ _ _ _ _ hlt, hp, hacc.out]; exact rfl
      have P := hide hp
      clear hp
      have OK := hide hok
      obtain ⟨⟨s1, s2⟩, ⟨s3, s4⟩, _⟩ := hok
      simp only at s1 s2 s3 s4 hca hcb
      go_wp2_with fail
      refine (onward_any bc br cell dr dc _ h1 h2 h3 h4 g1 g3 s1 s2 s3 s4).mono ?_
      rintro e w2 ⟨rfl, hb2⟩
      have bs2 := (Box.new wo 89 #[.int .i64 dr, .int .i64 dc]).then hb2
      have bx2 := (bx.alloc (.cells #[.int .i64 dr, .int .i64 dc] 89)).then hb2
      have own2 := own_below (hown.alloc (.cells #[.int .i64 dr, .int .i64 dc] 89)) hb2
      have hb2' : Below w.heap.size w w2 := below_then (hb.alloc z _) (by simp; omega) hb2
      have on1 := on_in (dr := dr) (dc := dc) (x := cell) h1 h2 h3 h4
      have on2 := pot_bd (bc := bc) (br := br) (dr := dr) (dc := dc) (x := (onP (nextP bc br dr dc cell)).1) h1 h2 h3 h4
      have HG : Hid (goesP bc br false others cell (dr, dc) = if (onP (nextP bc br dr dc cell)).2 = true then rayA bc br false others dr dc 5 (onP (nextP bc br dr dc cell)).1 else []) := goes_on ..
      generalize onP (nextP bc br dr dc cell) = q at *
      obtain ⟨y, on⟩ := q
      simp only at on1 on2 HG
      have hz2 := bs2.in_
      clear hb2 hca hcb c0 c1 zb
      go_wp2_with fail
      go_loopg [9, 12, 13] 5 (fun f v a b wr => ∃ (acc' : List Int) (x : Int) (o : Bool), a = .int .i64 x ∧ b = .bool o ∧ wr.ownsRow (w.heap.size + 1) 3 1 v acc'.length (ints acc') ∧ Hid (cellsP bc br false others cell (ss.take (k + 1)) = acc' ++ if o = true then rayA bc br false others dr dc f x else []) ∧
          acc'.length + f ≤ 5 * k + 5 ∧ Hid (o = true → (0 ≤ x ∧ x < bc * br) ∧ potP bc br dr dc x < f) ∧ Below w.heap.size w wr ∧ Box wr w.heap.size 52 #[.int .i64 bc, .int .i64 br] ∧ Box wr wo.heap.size 89 #[.int .i64 dr, .int .i64 dc])
      case atStart => exact ⟨acc, y, on, rfl, rfl, own2, by rw [HT.out, HG.out]; exact rfl, by omega, fun h => ⟨on1 h, by have := on2 (on1 h).1 (on1 h).2; omega⟩, hb2', bx2, bs2⟩
      case round =>
        obtain ⟨acc', x, o, rfl, rfl, hown', hacc', hal', hpot, hb', bx', bs'⟩ := hrel
        obtain ⟨wi, rfl⟩ : ∃ wi : World, wi = wr := ⟨_, rfl⟩
        cases o with
        | false =>
          go_wp2_with fail
          exact ⟨⟨k + 1, acc', hlt, rfl, hown', by rw [hacc'.out]; simp [Hid], by omega, hb', bx'⟩, by simp [intOf]; omega⟩
        | true =>
          obtain ⟨⟨x1, x2⟩, x3⟩ := hpot.out rfl
          have hp0 := (pot_bd (dr := dr) (dc := dc) h1 h2 h3 h4 x1 x2).1
          obtain ⟨f, rfl⟩ : ∃ f, gk = f + 1 := ⟨gk - 1, by omega⟩
          have hzi := hb'.size
          have z2 := bs'.in_
          have z3 := bx'.in_
          go_wp2_with ((at_builtin; refine put_own rfl (.tmp 29) (.tmp 31) rfl Try.underlying30 elem_int rfl (hown'.alloc _) rfl (m := 1) (news := [.int .i64 x]) rfl (row_new _ _ _ rfl) (by simp [Value.oneCell']) (by omega) (by omega) (by simp; omega) ?_; intro v3 w3 hown3 hg3 ho3))
          have hown' := hown'.alloc (.cells #[.int .i64 x] 3)
          have bx3 := bx'.alloc (.cells #[.int .i64 x] 3)
          have bs3 := bs'.alloc (.cells #[.int .i64 x] 3)
          have bx3 := bx3.grown hg3 (own_ne hown' bx3 (by decide))
          have bs3 := bs3.grown hg3 (own_ne hown' bs3 (by decide))
          have hb3 : Below w.heap.size w w3 := below_grown (hb'.alloc hzi _) (by simp; omega) hown' (by omega) hg3
          clear hg3 ho3 hown' bx' bs' hb' z2 z3 hzi
          refine (lfa_c _ _ _ _).mono ?_
          rintro e w4 ⟨rfl, hb4⟩
          have bx4 := bx3.then hb4
          have bs4 := bs3.then hb4
          have own4 := own_below hown3 hb4
          have hb4 := below_then hb3 hb3.size hb4
          clear bx3 bs3 hown3 hb3
          have z5 := hb4.size
          go_wp2_with fail
          exact ⟨⟨k + 1, acc' ++ [x], hlt, rfl, by simpa using own4, by rw [hacc'.out, if_pos trivial, ray_stop _ _ _ _ _ _ _ _ (by simp)]; exact rfl, by simp; omega, hb4, bx4⟩, by simp [intOf]; omega⟩
    · have hk2 : Hid (k = ss.length) := hide (by omega)
      go_wp2_with fail
      refine (sort_c _ _ acc _ hown (by omega)).mono ?_
      rintro e w2 ⟨rfl, hown2, hg2⟩
      have hb2 := below_grown hb z hown (by omega) hg2
      have hlen : (reachP bc br false others cell ss).length = acc.length := by
        rw [hacc.out, hk2.out, List.take_of_length_le (Nat.le_refl _)]; exact List.length_mergeSort ..
      have hlist : reachP bc br false others cell ss = acc.mergeSort fun x y => decide (x ≤ y) := by
        rw [hacc.out, hk2.out, List.take_of_length_le (Nat.le_refl _)]; rfl
      have HE : Hid (w2.ownsRow w.heap.size 3 1 u9 (reachP bc br false others cell ss).length (ints (reachP bc br false others cell ss))) := by
        rw [hlen, hlist]; exact own_mono hown2 (by omega)
      clear hlen hlist hown2 hg2
      go_wp2_with fail
      go_ret
      exact ⟨_, rfl, HE.out, hb2⟩
/-- REACH: whatever the piece. -/
theorem reach_c (bc br cell : Int) (B : Nat) (pv : Value) (far : Bool) (O : Option Addr) (oc : Nat) (ss : List (Int × Int)) (others : List Int) (w : World) (h1 : 1 ≤ bc) (h2 : bc ≤ 5) (h3 : 1 ≤ br) (h4 : br ≤ 5)
    (g1 : 0 ≤ cell) (g2 : cell < bc * br) (hs : Hid (∀ p ∈ ss, okStep p)) (hn : ss.length ≤ 8) (hp : IsPiece w B pv ss far) (ho : Row w O (ints others)) (hof : Flat O) (hol : others.length ≤ maxLen) :
    Calls Try.prog 28 #[boardV bc br, pv, .int .i64 cell, .slice O others.length oc] w (Owns 3 1 (reachP bc br far others cell ss).length (ints (reachP bc br far others cell ss)) w) := by
  obtain ⟨g, c, rfl, hr, _⟩ := hp
  cases far with
  | true => exact reach_far bc br cell g O c oc ss others w h1 h2 h3 h4 g1 g2 hs hn hr ho hof hol
  | false => exact reach_near bc br cell g O c oc ss others w h1 h2 h3 h4 g1 g2 hs hn hr ho hof hol
end Go.Proofs.Ytoapmmmmdfmaeac

/-
  ValidKind, ReachOf and AllMoves of the program.
-/
namespace Go.Proofs.Ytoapmmmmdfmaeac
open Go.RowKit
set_option linter.unusedVariables false

set_option maxHeartbeats 400000 in
theorem reachOf_nil (bc br cell : Int) (s : ByteArray) (O : Option Addr) (oc : Nat) (others : List Int) (w : World) (h : ¬ (Brd bc br ∧ (kindL s.toList).isSome = true)) :
    Calls Try.prog 10 #[.int .i64 bc, .int .i64 br, .string s, .int .i64 cell, .slice O others.length oc] w (Plain (.slice none 0 0) w) := by
  have H := hide h
  clear h
  go_enter Try.func10, Try.ntmps10
  go_wp2_with fail
  refine (setUp_no bc br s _ H.out).mono ?_
  rintro e w1 ⟨x, y, pv, rfl, hb⟩
  go_wp2_with fail
  go_ret
  exact ⟨rfl, hb.alloc hb.size _⟩
set_option maxHeartbeats 400000 in
theorem reachOf_out (bc br cell : Int) (s : ByteArray) (O : Option Addr) (oc : Nat) (others : List Int) (w : World) {ss : List (Int × Int)} {far : Bool} (hk : kindL s.toList = some (ss, far)) (h1 : 1 ≤ bc) (h2 : bc ≤ 5) (h3 : 1 ≤ br) (h4 : br ≤ 5)
    (h : ¬ (0 ≤ cell ∧ cell < bc * br)) :
    Calls Try.prog 10 #[.int .i64 bc, .int .i64 br, .string s, .int .i64 cell, .slice O others.length oc] w (Plain (.slice none 0 0) w) := by
  have Hk := hide hk
  have H := hide h
  clear hk h
  go_enter Try.func10, Try.ntmps10
  go_wp2_with fail
  refine (setUp_yes bc br s _ Hk.out h1 h2 h3 h4).mono ?_
  rintro e w1 ⟨pv, rfl, hp, hb⟩
  go_wp2_with fail
  refine (has_no bc br cell _ h1 h2 h3 h4 H.out).mono ?_
  rintro e w2 ⟨rfl, hb2⟩
  go_wp2_with fail
  go_ret
  exact ⟨rfl, below_then (hb.alloc hb.size _) (by have := hb.size; simp; omega) hb2⟩
set_option maxHeartbeats 400000 in
theorem reachOf_unasc (bc br cell : Int) (s : ByteArray) (O : Option Addr) (oc : Nat) (others : List Int) (w : World) {ss : List (Int × Int)} {far : Bool} (hk : kindL s.toList = some (ss, far)) (h1 : 1 ≤ bc) (h2 : bc ≤ 5) (h3 : 1 ≤ br) (h4 : br ≤ 5)
    (g1 : 0 ≤ cell) (g2 : cell < bc * br) (ho : Row w O (ints others)) (hm : others.length ≤ maxLen) (h : ¬ AscTo (bc * br) others others.length) :
    Calls Try.prog 10 #[.int .i64 bc, .int .i64 br, .string s, .int .i64 cell, .slice O others.length oc] w (Plain (.slice none 0 0) w) := by
  have Hk := hide hk
  clear hk
  have ha : ∀ w5 : World, Below w.heap.size w w5 → Calls Try.prog 27 #[boardV bc br, .slice O others.length oc] w5 (Plain (.bool false) w5) := fun w5 h5 => by
    have := asc_c bc br O oc others w5 h1 h2 h3 h4 (ho.below h5) hm
    rwa [decide_eq_false h] at this
  have HA := hide ha
  clear ha h
  go_enter Try.func10, Try.ntmps10
  go_wp2_with fail
  refine (setUp_yes bc br s _ Hk.out h1 h2 h3 h4).mono ?_
  rintro e w1 ⟨pv, rfl, hp, hb⟩
  have bx := Box.new w1 52 #[.int .i64 bc, .int .i64 br]
  go_wp2_with fail
  refine (has_yes bc br cell _ h1 h2 h3 h4 g1 g2).mono ?_
  rintro e w2 ⟨rfl, hb2⟩
  have bx2 := bx.then hb2
  have c0 := bx2.cell 0
  have c1 := bx2.cell 1
  have hb2 := below_then (hb.alloc hb.size _) (by have := hb.size; simp; omega) hb2
  clear bx
  go_wp2_with fail
  refine (HA.out _ hb2).mono ?_
  rintro e w3 ⟨rfl, hb3⟩
  go_wp2_with fail
  go_ret
  exact ⟨rfl, below_then hb2 hb2.size hb3⟩
set_option maxHeartbeats 400000 in
theorem reachOf_yes (bc br cell : Int) (s : ByteArray) (O : Option Addr) (oc : Nat) (others : List Int) (w : World) {ss : List (Int × Int)} {far : Bool} (hk : kindL s.toList = some (ss, far)) (h1 : 1 ≤ bc) (h2 : bc ≤ 5) (h3 : 1 ≤ br) (h4 : br ≤ 5)
    (g1 : 0 ≤ cell) (g2 : cell < bc * br) (ho : Row w O (ints others)) (hof : Flat O) (hm : others.length ≤ maxLen) (h : AscTo (bc * br) others others.length) :
    Calls Try.prog 10 #[.int .i64 bc, .int .i64 br, .string s, .int .i64 cell, .slice O others.length oc] w (Owns 3 1 (reachP bc br far others cell ss).length (ints (reachP bc br far others cell ss)) w) := by
  obtain ⟨k1, k2, _⟩ := kind_ok hk
  have Hk := hide hk
  clear hk
  have ha : ∀ w5 : World, Below w.heap.size w w5 → Calls Try.prog 27 #[boardV bc br, .slice O others.length oc] w5 (Plain (.bool true) w5) := fun w5 h5 => by
    have := asc_c bc br O oc others w5 h1 h2 h3 h4 (ho.below h5) hm
    rwa [decide_eq_true h] at this
  have HA := hide ha
  have Hof := hide hof
  clear ha h hof
  go_enter Try.func10, Try.ntmps10
  go_wp2_with fail
  refine (setUp_yes bc br s _ Hk.out h1 h2 h3 h4).mono ?_
  rintro e w1 ⟨pv, rfl, hp, hb⟩
  have bx := Box.new w1 52 #[.int .i64 bc, .int .i64 br]
  have hp := hp.then ((Below.refl _ _).alloc (Nat.le_refl _) (.cells #[.int .i64 bc, .int .i64 br] 52))
  go_wp2_with fail
  refine (has_yes bc br cell _ h1 h2 h3 h4 g1 g2).mono ?_
  rintro e w2 ⟨rfl, hb2⟩
  have bx2 := bx.then hb2
  have hp2 := hp.then hb2
  have c0 := bx2.cell 0
  have c1 := bx2.cell 1
  have hb2 := below_then (hb.alloc hb.size _) (by have := hb.size; simp; omega) hb2
  clear bx hp
  go_wp2_with fail
  refine (HA.out _ hb2).mono ?_
  rintro e w3 ⟨rfl, hb3⟩
  have bx3 := bx2.then hb3
  have hp3 := hp2.then hb3
  have hb3 := below_then hb2 hb2.size hb3
  clear c0 c1 bx2 hp2 hb2
  have c0 := bx3.cell 0
  have c1 := bx3.cell 1
  go_wp2_with fail
  refine (reach_c bc br cell _ pv far O oc ss others _ h1 h2 h3 h4 g1 g2 k1 k2 hp3 (ho.below hb3) Hof.out hm).mono ?_
  rintro e w4 ⟨v, rfl, hown, hb4⟩
  go_wp2_with fail
  go_ret
  exact ⟨v, rfl, own_mono hown hb3.size, below_then hb3 hb3.size hb4⟩
/-- REACHOF OF THE PROGRAM. -/
theorem implReachOf_c (bc br cell : Int) (s : ByteArray) (O : Option Addr) (oc : Nat) (others : List Int) (w : World) (ho : Row w O (ints others)) (hof : Flat O) (hm : others.length ≤ maxLen) :
    Calls Try.prog 10 #[.int .i64 bc, .int .i64 br, .string s, .int .i64 cell, .slice O others.length oc] w (Owns 3 1 (reachOfP bc br s.toList cell others).length (ints (reachOfP bc br s.toList cell others)) w) := by
  have nil : ∀ {l : List Int}, l = [] → Calls Try.prog 10 #[.int .i64 bc, .int .i64 br, .string s, .int .i64 cell, .slice O others.length oc] w (Plain (.slice none 0 0) w) →
      Calls Try.prog 10 #[.int .i64 bc, .int .i64 br, .string s, .int .i64 cell, .slice O others.length oc] w (Owns 3 1 l.length (ints l) w) := by
    rintro _ rfl h
    exact h.mono fun e w' ⟨he, hb⟩ => ⟨_, he, World.ownsRow_nil _ _ _ _, hb⟩
  unfold reachOfP
  cases hk : kindL s.toList with
  | none => exact nil rfl (reachOf_nil bc br cell s O oc others w (by simp [hk]))
  | some p =>
    obtain ⟨ss, far⟩ := p
    simp only
    by_cases hB : Brd bc br
    · obtain ⟨h1, h2, h3, h4⟩ := hB
      by_cases hc : 0 ≤ cell ∧ cell < bc * br
      · by_cases ha : AscTo (bc * br) others others.length
        · rw [if_pos ⟨⟨h1, h2, h3, h4⟩, hc, ha⟩]
          exact reachOf_yes bc br cell s O oc others w hk h1 h2 h3 h4 hc.1 hc.2 ho hof hm ha
        · rw [if_neg (fun h => ha h.2.2)]
          exact nil rfl (reachOf_unasc bc br cell s O oc others w hk h1 h2 h3 h4 hc.1 hc.2 ho hm ha)
      · rw [if_neg (fun h => hc h.2.1)]
        exact nil rfl (reachOf_out bc br cell s O oc others w hk h1 h2 h3 h4 hc)
    · rw [if_neg (fun h => hB h.1)]
      exact nil rfl (reachOf_nil bc br cell s O oc others w (fun h => hB h.1))
end Go.Proofs.Ytoapmmmmdfmaeac

/-
  The walks of the laws about ReachOf.
-/
namespace Go.Proofs.Ytoapmmmmdfmaeac
open Go.RowKit
set_option linter.unusedVariables false

theorem own_flat {w : World} {base e size n c : Nat} {A : Option Addr} {cs : List Value} (h : w.ownsRow base e size (.slice A n c) n cs) : Flat A := by
  obtain ⟨A', c', he, _, _, _, hf⟩ := own_row h
  injection he with h1
  subst h1
  intro ad e
  obtain ⟨g, hg, _⟩ := hf ad e
  exact ⟨g, 0, hg⟩
theorem reachOfP_len (bc br : Int) (s : List UInt8) (cell : Int) (others : List Int) : (reachOfP bc br s cell others).length ≤ 40 := by
  unfold reachOfP
  cases hk : kindL s with
  | none => simp
  | some p =>
    obtain ⟨ss, far⟩ := p
    simp only
    split
    · have := reach_len bc br far others cell ss
      have := (kind_ok hk).2.1
      omega
    · simp

end Go.Proofs.Ytoapmmmmdfmaeac

/-
  slices.Repeat of one number.
-/
namespace Go.Proofs.Ytoapmmmmdfmaeac
open Go.RowKit
set_option linter.unusedVariables false

theorem mul_one_n (n : Nat) (h : n ≤ 1000) (w : World) : Calls Try.prog 88 #[.int .u64 1, .int .u64 (n : Int)] w fun e w' => e = .returned (.tuple #[.int .u64 0, .int .u64 (n : Int)]) ∧ w = w' := by
  have := Try.bits_Mul 1 n (by omega) (by omega) w
  rw [show 1 * n / 18446744073709551616 = 0 from by omega, show 1 * n % 18446744073709551616 = n from by omega] at this
  exact this.mono fun e w' ⟨he, hw⟩ => ⟨he, hw.symm⟩
theorem size_int : (Try.prog.info? 3).map (·.size) = some 1 := by kernel_rfl

theorem own_box {w : World} {base e g n : Nat} {xs : List Value} (h : w.ownsRow base e 1 (.slice (some ⟨g, 0, none⟩) n n) n xs) : Box w g e xs.toArray := by
  rcases h.2 with ⟨h', _⟩ | ⟨g', cap, cur, h', _, hg, _, _, hs, ht⟩
  · cases h'
  · injection h' with h1 _ h3
    injection h1 with h1
    injection h1 with h1 _
    subst h1 h3
    have : cur = xs.toArray := by
      rw [← ht, List.take_of_length_le (by simp; omega)]
    rw [← this]
    exact hg
theorem box_own {w : World} {base e g n : Nat} {xs : List Value} (h : Box w g e xs.toArray) (hb : base ≤ g) (hn : xs.length = n) (hm : n ≤ maxLen) : w.ownsRow base e 1 (.slice (some ⟨g, 0, none⟩) n n) n xs :=
  ⟨by omega, .inr ⟨g, n, xs.toArray, rfl, hb, h, Nat.le_refl _, hm, by simp; omega, List.take_of_length_le (by simp; omega)⟩⟩

set_option maxHeartbeats 1000000 in
set_option maxRecDepth 100000 in
theorem repeat_c (n : Nat) (g : Nat) (x : Int) (w : World) (n1 : 1 ≤ n) (n2 : n ≤ 25) (hc : w.cell? ⟨g, 0, none⟩ = some (.int .i64 x)) :
    Calls Try.prog 74 #[.slice (some ⟨g, 0, none⟩) 1 1, .int .i64 n] w (Owns 3 1 n (ints (List.replicate n x)) w) := by
  have HM := hide (fun (w : World) => mul_one_n n (by omega) w)
  obtain ⟨⟨i0, z0, hi0, hz0, hz1, hz2, hz3⟩, _⟩ := (Elem.of (P := Try.prog) (e := 3) (size := 1) (bytes := 8) (z := .int .i64 0) (by kernel_rfl) rfl (by omega))
  have hgl := World.block_lt_of_cell? w _ hc
  go_enter Try.func74, Try.ntmps74
  go_wp2_with fail
  refine (HM.out _).mono ?_
  rintro e w1 ⟨rfl, rfl⟩
  go_wp2_with (first
    | (at_make; refine wpList_make_full _ rfl (.tmp 29) (.tmp 29) 30 rfl w.heap.size 3 i0 z0 1 Try.underlying30 hi0 hz0 hz1 .i64 .i64 n n n rfl rfl rfl rfl (by rw [hz2]; omega) (by simp [maxLen]; omega) (Nat.le_refl _) ?_
       intro w1 hown1 hg1
       have bx := own_box hown1
       have hXl := hown1.1
       have hb1 : Below w.heap.size w w1 := (Below.refl _ _).grown hg1 (Nat.le_refl _) (fun k h => by cases h)
       have hc1 := (hb1.cell (p := ⟨g, 0, none⟩) hgl).trans hc
       clear hown1 hg1
       generalize (madeCells z0.cells (n * 1)).toList = X at *)
    | (refine wpList_copy_splice rfl (.tmp 31) (.tmp 32) 30 30 rfl 3 Try.underlying30 size_int (some ⟨w.heap.size, 0, none⟩) (some ⟨g, 0, none⟩) n n 1 1 rfl rfl w.heap.size 0 X 3 bx [.int .i64 x] (by simp only [List.length_cons, List.length_nil, Nat.min_def]; split <;> omega) (fun _ => ⟨rfl, _, rfl, fun j v h => by
         rcases j with _ | j
         · simp only [List.getElem?_cons_zero, Option.some.injEq] at h; subst h; exact hc1
         · simp at h⟩) (by simp only [List.length_cons, List.length_nil]; omega) (by simp [Value.oneCell']) w.heap.size w hb1 (Nat.le_refl _) ?_
       intro w2 bx2 hb2
       have bx2 : Box w2 w.heap.size 3 (splice X 0 [Value.int .i64 x]).toArray := bx2.out))
  clear bx hb1 hc1
  have hY : (splice X 0 [Value.int .i64 x]).length = n ∧ (splice X 0 [Value.int .i64 x]).take 1 = List.replicate 1 (Value.int .i64 x) := ⟨by rw [length_splice _ _ _ (by simp; omega)]; omega, by simp [splice]⟩
  generalize splice X 0 [Value.int .i64 x] = Y at *
  have HY := hide hY
  clear hY hXl
  go_loopg [8] n (fun f a wr => ∃ (m : Nat) (Z : List Value), a = .int .i64 m ∧ 1 ≤ m ∧ m ≤ n ∧ n - m < f ∧ Box wr w.heap.size 3 Z.toArray ∧ Hid (Z.length = n ∧ Z.take m = List.replicate m (Value.int .i64 x)) ∧ Below w.heap.size w wr)
  case atStart => exact ⟨1, Y, rfl, by omega, by omega, by omega, bx2, HY.out, hb2⟩
  case round =>
    obtain ⟨m, Z, rfl, m1, m2, m3, bz, HZ, hb⟩ := hrel
    obtain ⟨wo, rfl⟩ : ∃ wo : World, wo = wr := ⟨_, rfl⟩
    by_cases hlt : m < n
    · have i1 : (0 : Int) ≤ (m : Int) := by omega
      have i2 : (m : Int) ≤ (n : Int) := by omega
      have hne : ¬ n = m := by omega
      obtain ⟨q, hq⟩ : ∃ q, (Z.take m).take (n - m) = q := ⟨_, rfl⟩
      have hql : q.length = Nat.min m (n - m) := by rw [← hq, List.length_take, List.length_take, HZ.out.1]; simp only [Nat.min_def]; split <;> split <;> split <;> omega
      go_wp2_with fail
      have hbd := hb.drew
      have bzd : Box wo.drew w.heap.size 3 Z.toArray := bz
      have hpos : 0 < q.length → (some (⟨w.heap.size, m, none⟩ : Addr)) = some ⟨w.heap.size, m, none⟩ ∧ ∃ ad, (some (⟨w.heap.size, 0, none⟩ : Addr)) = some ad ∧ ∀ j v, q[j]? = some v → wo.drew.cell? (ad.add j) = some v := fun _ => ⟨rfl, _, rfl, fun j v h => by
        rw [← hq] at h
        rw [List.getElem?_take, List.getElem?_take] at h
        split at h
        · split at h
          · rw [show (⟨w.heap.size, 0, none⟩ : Addr).add j = ⟨w.heap.size, j, none⟩ from by unfold Addr.add; split <;> simp_all]
            rw [bzd.cell j]
            simpa using h
          · cases h
        · cases h⟩
      have hfit : m + q.length ≤ Z.length := by rw [hql, HZ.out.1]; simp only [Nat.min_def]; split <;> omega
      have hone : ∀ v ∈ q, v.oneCell' = true := fun v hv => by
        rw [← hq, HZ.out.2] at hv
        have := List.eq_of_mem_replicate (List.mem_of_mem_take hv)
        subst this
        rfl
      have Hpos := hide hpos
      have Hone := hide hone
      have hqz : Hid (splice Z m q = Z.take m ++ (q ++ Z.drop (m + q.length))) := rfl
      have Hq := hide hq
      have hql2 : q.length ≤ n - m ∧ 1 ≤ q.length := by rw [hql]; simp only [Nat.min_def]; split <;> omega
      have Hql := hide hql
      obtain ⟨l1, l2⟩ := hql2
      clear hpos hone hq hql
      go_region_law (refine step_copy_splice rfl (.tmp 41) (.tmp 44) 30 30 rfl 3 Try.underlying30 size_int (some ⟨w.heap.size, m, none⟩) (some ⟨w.heap.size, 0, none⟩) (n - m) (n - m) m n (by simp [Act.eval, Act.put]) (by simp [Act.eval, Act.put]) w.heap.size m Z 3 bzd q Hql.out Hpos.out hfit Hone.out w.heap.size w hbd (Nat.le_refl _) ?_; intro w4 bz4 hb4)
      have hsl : Hid ((splice Z m q).length = n ∧ (splice Z m q).take (m + q.length) = List.replicate (m + q.length) (Value.int .i64 x)) := by
        refine ⟨by rw [length_splice _ _ _ hfit]; exact HZ.out.1, ?_⟩
        have hlm : (Z.take m).length = m := by rw [List.length_take, HZ.out.1]; omega
        have hqr : q = List.replicate q.length (Value.int .i64 x) := List.eq_replicate_of_mem fun v hv => by
          rw [← Hq.out, HZ.out.2] at hv
          exact List.eq_of_mem_replicate (List.mem_of_mem_take hv)
        rw [hqz.out, ← List.append_assoc, List.take_append_of_le_length (by rw [List.length_append, hlm]; exact Nat.le_refl _), List.take_of_length_le (by rw [List.length_append, hlm]; exact Nat.le_refl _), HZ.out.2]
        conv => lhs; rw [hqr]
        rw [List.replicate_append_replicate]
      have bz4' : Box w4 w.heap.size 3 (splice Z m q).toArray := bz4.out
      clear bz4 Hql hfit Hq hqz Hpos Hone
      generalize splice Z m q = Z' at *
      generalize q.length = ql at *
      go_wp2_with fail
      go_roundg (n - (m + ql) + 1)
      case rel => exact ⟨m + ql, Z', by rw [show IntKind.i64.wrap ((m : Int) + (ql : Int)) = (m : Int) + (ql : Int) from IntWalk.i64_in _ (by omega)]; go_num, by omega, by omega, by omega, bz4', hsl.out, hb4⟩
      case measure => omega
    · have hk2 : Hid (m = n) := hide (by omega)
      go_wp2_with fail
      go_ret
      refine ⟨_, rfl, ?_, hb⟩
      have := HZ.out
      rw [hk2.out, List.take_of_length_le (by omega)] at this
      rw [this.2] at bz
      simpa [ints] using box_own bz (Nat.le_refl _) (by simp) (by simp [maxLen]; omega)
end Go.Proofs.Ytoapmmmmdfmaeac

/-
  Boards: movesFrom.
-/
namespace Go.Proofs.Ytoapmmmmdfmaeac
open Go.RowKit
set_option linter.unusedVariables false

theorem flat_none' : Flat none := fun ad e => by cases e
theorem own_keep {w w' : World} {base e size n g c : Nat} {xs : List Value} {r : Option Nat} (h : w.ownsRow base e size (.slice (some ⟨g, 0, none⟩) n c) n xs) (hg : w.grownBy w' r) (hr : r ≠ some g) : w'.ownsRow base e size (.slice (some ⟨g, 0, none⟩) n c) n xs :=
  h.kept hg (.inr (fun e => hr e.symm))
theorem own_lt' {w : World} {base e size n : Nat} {v : Value} {xs : List Value} (h : w.ownsRow base e size v n xs) : ∀ k, v.ownBlock = some k → k < w.heap.size := fun k hk => (h.lt k hk).2
theorem own_reads' {w : World} {base e size n c : Nat} {A : Option Addr} {cs : List Value} (h : w.ownsRow base e size (.slice A n c) n cs) : Row w A cs := by
  obtain ⟨A', c', he, _, _, hr, _⟩ := own_row h
  injection he with h1
  exact h1 ▸ hr
theorem fold_snoc (x : Int) (L : List Int) (k : Nat) (hk : k < L.length) (st : List Int × List Int) : (L.take (k + 1)).foldl (visitP x) st = visitP x ((L.take k).foldl (visitP x) st) (L[k]?.getD 0) := by
  rw [take_snoc L k hk, List.foldl_append]
  rfl
theorem own_free {w w' : World} {base e size n : Nat} {v : Value} {xs : List Value} {g : Nat} (h : w.ownsRow base e size v n xs) (hg : w.grownBy w' (some g)) (hne : v.ownBlock ≠ some g) : w'.ownsRow base e size v n xs := h.kept hg (.inr hne)
theorem ints_set (l : List Int) (i : Nat) (u : Int) : (ints l).set i (.int .i64 u) = ints (l.set i u) := by simp [ints, List.map_set]

set_option maxHeartbeats 2000000 in
set_option maxRecDepth 100000 in
theorem movesFrom_c (bc br cell : Int) (B0 : Nat) (pv : Value) (far : Bool) (ss : List (Int × Int)) (w : World) (h1 : 1 ≤ bc) (h2 : bc ≤ 5) (h3 : 1 ≤ br) (h4 : br ≤ 5)
    (g1 : 0 ≤ cell) (g2 : cell < bc * br) (hs : Hid (∀ p ∈ ss, okStep p)) (hn : ss.length ≤ 8) (hp : IsPiece w B0 pv ss far) :
    Calls Try.prog 57 #[boardV bc br, pv, .int .i64 cell] w (Owns 3 1 (movesP bc br far ss cell).length (ints (movesP bc br far ss cell)) w) := by
  obtain ⟨m1, m2⟩ := mul_bd h1 h2 h3 h4
  obtain ⟨N, hN⟩ : ∃ N : Nat, bc * br = (N : Int) := ⟨(bc * br).toNat, by omega⟩
  obtain ⟨cn, rfl⟩ := Int.eq_ofNat_of_zero_le g1
  have HP := hide (show movesP bc br far ss cn = bfsP bc br far ss 26 ((List.replicate N (-1)).set cn 0, [(cn : Int)]) 0 by
    rw [movesP, hN]; rfl)
  have HM := hide (Met.start (N := N) (cell := (cn : Int)) (by omega) (by omega))
  have hcn : cn < N := by omega
  have hN1 : 1 ≤ N := by omega
  have hN2 : N ≤ 25 := by omega
  have hin := hide (fun (x : Int) => cells_in (bc := bc) (br := br) (far := far) (others := []) (cell := x) (ss := ss) h1 h2 h3 h4)
  have hsize := hide (fun (w5 : World) => show Calls Try.prog 52 #[boardV bc br] w5 (Plain (.int .i64 (N : Int)) w5) by
    have := size_c bc br w5 h1 h2 h3 h4; rwa [hN] at this)
  have hreach := hide (fun (x : Int) (w5 : World) (x0 : 0 ≤ x) (x1 : x < (N : Int)) (hp5 : IsPiece w5 B0 pv ss far) => reach_c bc br x B0 pv far none 0 ss [] w5 h1 h2 h3 h4 x0 (by omega) hs hn hp5 (Row.empty _ _) flat_none' (by simp [maxLen]))
  have hNN := hide hN
  have bx0 := Box.new w 52 #[.int .i64 bc, .int .i64 br]
  generalize hRes : movesP bc br far ss cn = res at *
  clear hRes hN g2 m1 m2
  go_enter Try.func57, Try.ntmps57
  go_wp2_with fail
  refine (hsize.out _).mono ?_
  rintro e w1 ⟨rfl, b1⟩
  have bx1 := (bx0.alloc (.cells #[.int .i64 (-1)] 3)).then b1
  have hc1 := ((Box.new (w.alloc (.cells #[.int .i64 bc, .int .i64 br] 52)) 3 #[.int .i64 (-1)]).then b1).cell 0
  simp only [World.size_alloc] at hc1
  have b1 := below_then (((Below.refl w.heap.size w).alloc (Nat.le_refl _) (.cells #[.int .i64 bc, .int .i64 br] 52)).alloc (by simp) (.cells #[.int .i64 (-1)] 3)) (by simp; omega) b1
  have z1 := bx1.in_
  clear bx0
  go_wp2_with fail
  refine (repeat_c N (w.heap.size + 1) (-1) _ hN1 hN2 hc1).mono ?_
  rintro e w2 ⟨v7, rfl, o7, b2⟩
  obtain ⟨g7, c7, rfl, hc71, hc72, _, hg7, _⟩ := own_one o7 hN1
  have bx2 := bx1.then b2
  have b2 := below_then b1 b1.size b2
  have o7 := own_mono o7 (base' := w.heap.size + 1) (by omega)
  clear hc1 bx1
  have hl7 : (List.replicate N (-1 : Int)).length = N := by simp
  obtain ⟨st0, hst0⟩ : ∃ st, List.replicate N (-1 : Int) = st := ⟨_, rfl⟩
  rw [hst0] at o7 hl7 HM HP
  clear hst0
  have hcell := o7.cellAt cn (by omega)
  rw [List.getElem?_eq_getElem (by simp; omega)] at hcell
  have hfree := o7.frozenAt cn
  obtain ⟨ost, gst⟩ := o7.stored cn (.int .i64 0)
  rw [ints_set] at ost
  have bst := b2.grown gst b2.size (fun k e => by injection e with e; omega)
  have bxs := bx2.grown gst (fun e => by injection e with e; omega)
  have Ost := hide ost
  clear ost o7 gst
  unfold maxLen at hc72
  have Hzs := hide (show (w2.setCell ⟨g7, cn, none⟩ (Value.int .i64 0)).heap.size = w2.heap.size by simp [World.setCell])
  go_wp2_with fail
  generalize w2.setCell ⟨g7, cn, none⟩ (Value.int .i64 0) = w3 at *
  have zb3 := bxs.in_
  have hz3 := bst.size
  go_loopg [8] 26 (fun f v wr => ∃ (st1 pre rest : List Int) (gq : Nat), Seg wr (w.heap.size + 1) gq 3 v (ints rest) ∧ wr.ownsRow (w.heap.size + 1) 3 1 (.slice (some ⟨g7, 0, none⟩) N c7) N (ints st1) ∧ Hid (Met N (st1, pre ++ rest)) ∧ Hid (bfsP bc br far ss f (st1, pre ++ rest) pre.length = res) ∧ N + 1 ≤ pre.length + f ∧ gq ≠ g7 ∧ Below w.heap.size w wr ∧ Box wr w.heap.size 52 #[.int .i64 bc, .int .i64 br])
  case atStart =>
    have on := own_lt' Ost.out
    refine ⟨st0.set cn 0, [], [(cn : Int)], w2.heap.size, ?_, Ost.out.alloc _, HM.out, HP.out.symm, by simp; omega, ?_, bst.alloc hz3 _, bxs.alloc _⟩
    · exact ⟨0, 1, #[.int .i64 cn], rfl, by have := Hzs.out; omega, by rw [← Hzs.out]; exact Box.new _ _ _, Nat.le_refl _, by simp [maxLen], by simp, fun j hj => by
        simp only [List.length_map, List.length_cons, List.length_nil] at hj
        obtain rfl : j = 0 := by omega
        rfl⟩
    · have := on g7 rfl
      have := Hzs.out
      omega
  case round =>
    obtain ⟨st1, pre, rest, gq, sg, o7, HMet, hbfs, hf, hgq, hb, bx⟩ := hrel
    obtain ⟨wo, rfl⟩ : ∃ wo : World, wo = wr := ⟨_, rfl⟩
    have z := hb.size
    cases rest with
    | nil =>
      obtain ⟨off, cap, rfl, _, _, _⟩ := sg.row
      have hres : Hid (res = st1) := by rw [← hbfs.out, bfs_end]; exact rfl; simp
      have hlen : Hid (st1.length = N) := HMet.out.len
      go_wp2_with fail
      go_ret
      refine ⟨_, rfl, ?_, hb⟩
      rw [hres.out, hlen.out]
      exact own_mono o7 (by omega)
    | cons x rest =>
      obtain ⟨off, cap, hv, hcap1, hcap2, hcells⟩ := sg.row
      simp only [ints, List.map_cons, List.length_cons, List.length_map] at hv hcap1 hcells
      subst hv
      have hx0 := hcells 0 (by omega)
      simp only [Nat.add_zero, List.getElem?_cons_zero] at hx0
      have sgt0 : Seg wo (w.heap.size + 1) gq 3 (.slice (some ⟨gq, off, none⟩) ((rest.map (Value.int .i64)).length + 1) cap) (Value.int .i64 x :: rest.map (Value.int .i64)) := by
        rw [List.length_map]; exact sg
      have sgt : Seg wo (w.heap.size + 1) gq 3 (.slice (if cap = 1 then some ⟨gq, off, none⟩ else some ⟨gq, off + 1, none⟩) (rest.map (Value.int .i64)).length (cap - 1)) (rest.map (Value.int .i64)) := Seg.tail sgt0
      rw [List.length_map] at sgt
      clear sgt0
      obtain ⟨⟨x0, x1⟩, _⟩ := HMet.out.mem x (by simp)
      have hfz : Hid (1 ≤ gk) := by have := HMet.out.le; simp only [List.length_append, List.length_cons] at this; show 1 ≤ gk; omega
      obtain ⟨f, rfl⟩ : ∃ f, gk = f + 1 := ⟨gk - 1, by have := hfz.out; omega⟩
      have c0 := bx.cell 0
      have c1 := bx.cell 1
      have hi1 : (1 : Int) ≤ (cap : Int) := by omega
      unfold maxLen at hcap2
      clear hcells
      obtain ⟨xn, rfl⟩ := Int.eq_ofNat_of_zero_le x0
      by_cases hcap : cap = 1
      · rw [if_pos hcap] at sgt
        subst hcap
        obtain rfl : rest = [] := List.eq_nil_of_length_eq_zero (by omega)
        go_wp2_with fail
        refine (hreach.out _ wo x0 x1 (hp.then hb)).mono ?_
        rintro e w5 ⟨v5, rfl, o5, b5⟩
        obtain ⟨A5, c5, rfl, _⟩ := own_row o5
        have i7 := own_lt' o7 g7 rfl
        have iq := sg.lt.2
        have i5 := own_lt' o5
        have o7 := own_below o7 b5
        have sgt := sgt.then b5
        have bx := bx.then b5
        have z5 := b5.size
        have hb := below_then hb z b5
        have hmem : Hid (∀ y ∈ reachP bc br far [] (xn : Int) ss, 0 ≤ y ∧ y < (N : Int)) := fun y hy => by
          unfold reachP at hy
          rw [List.mem_mergeSort] at hy
          have := hin.out _ y hy
          rwa [hNN.out] at this
        have hexp : Hid (∀ st, expandP bc br far ss (xn : Int) st = (reachP bc br far [] (xn : Int) ss).foldl (visitP (xn : Int)) st) := fun st => rfl
        have hLl := reach_len bc br far [] (xn : Int) ss
        generalize reachP bc br far [] (xn : Int) ss = L at *
        have hmore := hide ((bfs_more bc br far ss f (st1, pre ++ (xn : Int) :: ([] : List Int)) pre.length (by simp)).symm.trans hbfs.out)
        clear sg hbfs c0 c1 hx0
        go_wp2_with fail
        go_loopw [8, 34] (fun v i wr => ∃ (k : Nat) (st2 rs : List Int) (gr : Nat), k ≤ L.length ∧ i = .int .i64 k ∧ Seg wr (w.heap.size + 1) gr 3 v (ints rs) ∧ wr.ownsRow (w.heap.size + 1) 3 1 (.slice (some ⟨g7, 0, none⟩) N c7) N (ints st2) ∧ wr.ownsRow wo.heap.size 3 1 (.slice A5 L.length c5) L.length (ints L) ∧
            Hid (Met N (st2, pre ++ [(xn : Int)] ++ rs) ∧ (L.take k).foldl (visitP (xn : Int)) (st1, pre ++ (xn : Int) :: ([] : List Int)) = (st2, pre ++ [(xn : Int)] ++ rs)) ∧ gr ≠ g7 ∧ (gr < wo.heap.size ∨ w5.heap.size ≤ gr) ∧ w5.heap.size ≤ wr.heap.size ∧ Below w.heap.size w wr ∧ Box wr w.heap.size 52 #[.int .i64 bc, .int .i64 br]) (fun _ i _ => L.length - (intOf i).toNat)
        case atStart => exact ⟨0, st1, ([] : List Int), gq, Nat.zero_le _, rfl, sgt, o7, o5, ⟨by simpa using HMet.out, by simp⟩, hgq, .inl iq, Nat.le_refl _, hb, bx⟩
        case round =>
          clear sgt o7 o5 hb bx HMet
          obtain ⟨k, st2, rs, gr, hk, rfl, sg, o7, o5, hmf, hgr, hgr2, hz, hb, bx⟩ := hrel
          obtain ⟨wi, rfl⟩ : ∃ wi : World, wi = wr := ⟨_, rfl⟩
          by_cases hlt : k < L.length
          · obtain ⟨ad, rfl, hcy⟩ := (own_reads' o5).int hlt
            obtain ⟨y0, y1⟩ := hmem.out _ (show L[k] ∈ L from List.getElem_mem hlt)
            have hky : L[k]?.getD 0 = L[k] := by rw [List.getElem?_eq_getElem hlt]; rfl
            obtain ⟨yn, hyn⟩ := Int.eq_ofNat_of_zero_le y0
            rw [hky, hyn] at hcy
            rw [hyn] at y1 hky
            have hyN : yn < N := by omega
            have hxN : xn < N := by omega
            have HK := hide hky
            have hl2 : Hid (st2.length = N) := hmf.out.1.len
            have hcm := o7.cellAt yn (by omega)
            have hcx := o7.cellAt xn (by omega)
            have hfm := o7.frozenAt yn
            have bx2 := hmf.out.1.at_bd (xn : Int) (by omega) (by omega)
            have hle := hmf.out.1.le
            have hxmem := hide (hmf.out.1.mem (xn : Int) (by simp)).2
            simp only [Int.toNat_natCast] at bx2 hxmem
            rw [show (ints st2)[yn]? = some (.int .i64 (st2[yn]?.getD 0)) from by rw [ints, List.getElem?_map, List.getElem?_eq_getElem (by rw [hl2.out]; exact hyN)]; rfl] at hcm
            rw [show (ints st2)[xn]? = some (.int .i64 (st2[xn]?.getD 0)) from by rw [ints, List.getElem?_map, List.getElem?_eq_getElem (by rw [hl2.out]; exact hxN)]; rfl] at hcx
            obtain ⟨ost, gst⟩ := o7.stored yn (.int .i64 (st2[xn]?.getD 0 + 1))
            rw [ints_set] at ost
            have hfold := hide (fold_snoc (xn : Int) L k hlt (st1, pre ++ (xn : Int) :: ([] : List Int)))
            have HST := hide (show ∀ a b, st2[yn]?.getD 0 = a → st2[xn]?.getD 0 = b → visitP (xn : Int) (st2, pre ++ [(xn : Int)] ++ rs) (yn : Int) = if a < 0 then (st2.set yn (b + 1), pre ++ [(xn : Int)] ++ (rs ++ [(yn : Int)])) else (st2, pre ++ [(xn : Int)] ++ rs) from fun a b ha hb' => by
              subst ha hb'
              simp [visitP])
            have HMV := hide ((hmf.out.1.visit (x := (xn : Int)) (y := (yn : Int)) (by simp) (by omega) y1).1)
            obtain ⟨a, ha⟩ : ∃ a, st2[yn]?.getD 0 = a := ⟨_, rfl⟩
            obtain ⟨b, hbv⟩ : ∃ b, st2[xn]?.getD 0 = b := ⟨_, rfl⟩
            have hv := HST.out a b ha hbv
            rw [ha] at hcm
            rw [hbv] at hcx bx2 ost gst
            have HV := hide hv
            have Ost := hide ost
            have Gst := hide gst
            clear ha hbv hv HST ost gst hky hyn y0 hxmem
            simp only [List.length_append, List.length_cons, List.length_nil] at bx2 hle
            obtain ⟨b0, b1'⟩ := bx2
            by_cases hneg : a < 0
            · have HV2 : Hid (visitP (xn : Int) (st2, pre ++ [(xn : Int)] ++ rs) (yn : Int) = (st2.set yn (b + 1), pre ++ [(xn : Int)] ++ (rs ++ [(yn : Int)]))) := by
                have := HV.out; rw [if_pos hneg] at this; exact this
              have sg6 := hide ((sg.grown Gst.out (fun e => by injection e with e; omega)).then ((Below.refl _ _).alloc (Nat.le_refl _) (.cells #[.int .i64 (yn : Int)] 3)))
              have o76 := hide (Ost.out.alloc (.cells #[.int .i64 (yn : Int)] 3))
              have o56 := hide ((own_free o5 Gst.out (fun e => by have := (o5.lt _ e).1; omega)).alloc (.cells #[.int .i64 (yn : Int)] 3))
              have hb6 := hide ((hb.grown Gst.out hb.size (fun j e => by injection e with e; omega)).alloc (by have := hb.size; have := Gst.out.size; omega) (.cells #[.int .i64 (yn : Int)] 3))
              have bx6 := hide ((bx.grown Gst.out (fun e => by injection e with e; omega)).alloc (.cells #[.int .i64 (yn : Int)] 3))
              have hz6 := Gst.out.size
              have hnew : Hid (((wi.setCell ⟨g7, yn, none⟩ (.int .i64 (b + 1))).alloc (.cells #[.int .i64 (yn : Int)] 3)).cell? ⟨wi.heap.size, 0, none⟩ = some (.int .i64 (yn : Int))) := (World.cell?_alloc_at _ _ _ _ (by simp [World.setCell])).trans rfl
              go_wp2_with ((at_builtin; refine seg_put rfl (.tmp 51) (.tmp 53) rfl Try.underlying30 elem_int rfl sg6.out rfl hnew.out rfl (by simp; omega) (by omega) (by have := hb.size; simp; omega) ?_; intro v9 w9 g9 sg9 hg9 hgg))
              have gl := sg.lt.1
              have z6 : (wi.setCell ⟨g7, yn, none⟩ (.int .i64 (b + 1))).heap.size = wi.heap.size := by simp [World.setCell]
              have z9 := hg9.size
              rw [World.size_alloc, z6] at z9 hgg
              exact ⟨⟨k + 1, st2.set yn (b + 1), rs ++ [(yn : Int)], g9, hlt, rfl, by simpa [ints] using sg9, own_keep o76.out hg9 (fun e => by injection e with e; exact hgr e),
                own_free o56.out hg9 (fun e => by have e1 := (o56.out.lt _ e).1; have e2 := i5 _ e; omega),
                ⟨by have := HMV.out; rw [HV2.out] at this; simpa using this, by rw [hfold.out, hmf.out.2, HK.out, HV2.out]⟩, by omega, by omega, by omega,
                hb6.out.grown hg9 hb6.out.size (fun j e => by injection e with e; omega), bx6.out.grown hg9 (fun e => by injection e with e; omega)⟩, by simp [intOf]; omega⟩
            · have HV2 : Hid (visitP (xn : Int) (st2, pre ++ [(xn : Int)] ++ rs) (yn : Int) = (st2, pre ++ [(xn : Int)] ++ rs)) := by
                have := HV.out; rw [if_neg hneg] at this; exact this
              go_wp2_with fail
              exact ⟨⟨k + 1, st2, rs, gr, hlt, rfl, sg, o7, o5, ⟨hmf.out.1, by rw [hfold.out, hmf.out.2, HK.out, HV2.out]⟩, hgr, hgr2, hz, hb, bx⟩, by simp [intOf]; omega⟩
          · have hkL : Hid (k = L.length) := hide (by omega)
            go_wp2_with fail
            go_roundg f
            case rel => exact ⟨st2, pre ++ [(xn : Int)], rs, gr, sg, o7, hmf.out.1, by
                have e := hmf.out.2
                rw [hkL.out, List.take_of_length_le (Nat.le_refl _)] at e
                have e2 := hmore.out
                rw [show (pre ++ (xn : Int) :: ([] : List Int))[pre.length]?.getD 0 = (xn : Int) by simp, hexp.out, e] at e2
                simpa [Hid] using e2, by simp; omega, hgr, hb, bx⟩
            case measure => omega
      · rw [if_neg hcap] at sgt
        go_wp2_with fail
        refine (hreach.out _ wo x0 x1 (hp.then hb)).mono ?_
        rintro e w5 ⟨v5, rfl, o5, b5⟩
        obtain ⟨A5, c5, rfl, _⟩ := own_row o5
        have i7 := own_lt' o7 g7 rfl
        have iq := sg.lt.2
        have i5 := own_lt' o5
        have o7 := own_below o7 b5
        have sgt := sgt.then b5
        have bx := bx.then b5
        have z5 := b5.size
        have hb := below_then hb z b5
        have hmem : Hid (∀ y ∈ reachP bc br far [] (xn : Int) ss, 0 ≤ y ∧ y < (N : Int)) := fun y hy => by
          unfold reachP at hy
          rw [List.mem_mergeSort] at hy
          have := hin.out _ y hy
          rwa [hNN.out] at this
        have hexp : Hid (∀ st, expandP bc br far ss (xn : Int) st = (reachP bc br far [] (xn : Int) ss).foldl (visitP (xn : Int)) st) := fun st => rfl
        have hLl := reach_len bc br far [] (xn : Int) ss
        generalize reachP bc br far [] (xn : Int) ss = L at *
        have hmore := hide ((bfs_more bc br far ss f (st1, pre ++ (xn : Int) :: rest) pre.length (by simp)).symm.trans hbfs.out)
        clear sg hbfs c0 c1 hx0
        go_wp2_with fail
        go_loopw [8, 34] (fun v i wr => ∃ (k : Nat) (st2 rs : List Int) (gr : Nat), k ≤ L.length ∧ i = .int .i64 k ∧ Seg wr (w.heap.size + 1) gr 3 v (ints rs) ∧ wr.ownsRow (w.heap.size + 1) 3 1 (.slice (some ⟨g7, 0, none⟩) N c7) N (ints st2) ∧ wr.ownsRow wo.heap.size 3 1 (.slice A5 L.length c5) L.length (ints L) ∧
            Hid (Met N (st2, pre ++ [(xn : Int)] ++ rs) ∧ (L.take k).foldl (visitP (xn : Int)) (st1, pre ++ (xn : Int) :: rest) = (st2, pre ++ [(xn : Int)] ++ rs)) ∧ gr ≠ g7 ∧ (gr < wo.heap.size ∨ w5.heap.size ≤ gr) ∧ w5.heap.size ≤ wr.heap.size ∧ Below w.heap.size w wr ∧ Box wr w.heap.size 52 #[.int .i64 bc, .int .i64 br]) (fun _ i _ => L.length - (intOf i).toNat)
        case atStart => exact ⟨0, st1, rest, gq, Nat.zero_le _, rfl, sgt, o7, o5, ⟨by simpa using HMet.out, by simp⟩, hgq, .inl iq, Nat.le_refl _, hb, bx⟩
        case round =>
          clear sgt o7 o5 hb bx HMet
          obtain ⟨k, st2, rs, gr, hk, rfl, sg, o7, o5, hmf, hgr, hgr2, hz, hb, bx⟩ := hrel
          obtain ⟨wi, rfl⟩ : ∃ wi : World, wi = wr := ⟨_, rfl⟩
          by_cases hlt : k < L.length
          · obtain ⟨ad, rfl, hcy⟩ := (own_reads' o5).int hlt
            obtain ⟨y0, y1⟩ := hmem.out _ (show L[k] ∈ L from List.getElem_mem hlt)
            have hky : L[k]?.getD 0 = L[k] := by rw [List.getElem?_eq_getElem hlt]; rfl
            obtain ⟨yn, hyn⟩ := Int.eq_ofNat_of_zero_le y0
            rw [hky, hyn] at hcy
            rw [hyn] at y1 hky
            have hyN : yn < N := by omega
            have hxN : xn < N := by omega
            have HK := hide hky
            have hl2 : Hid (st2.length = N) := hmf.out.1.len
            have hcm := o7.cellAt yn (by omega)
            have hcx := o7.cellAt xn (by omega)
            have hfm := o7.frozenAt yn
            have bx2 := hmf.out.1.at_bd (xn : Int) (by omega) (by omega)
            have hle := hmf.out.1.le
            have hxmem := hide (hmf.out.1.mem (xn : Int) (by simp)).2
            simp only [Int.toNat_natCast] at bx2 hxmem
            rw [show (ints st2)[yn]? = some (.int .i64 (st2[yn]?.getD 0)) from by rw [ints, List.getElem?_map, List.getElem?_eq_getElem (by rw [hl2.out]; exact hyN)]; rfl] at hcm
            rw [show (ints st2)[xn]? = some (.int .i64 (st2[xn]?.getD 0)) from by rw [ints, List.getElem?_map, List.getElem?_eq_getElem (by rw [hl2.out]; exact hxN)]; rfl] at hcx
            obtain ⟨ost, gst⟩ := o7.stored yn (.int .i64 (st2[xn]?.getD 0 + 1))
            rw [ints_set] at ost
            have hfold := hide (fold_snoc (xn : Int) L k hlt (st1, pre ++ (xn : Int) :: rest))
            have HST := hide (show ∀ a b, st2[yn]?.getD 0 = a → st2[xn]?.getD 0 = b → visitP (xn : Int) (st2, pre ++ [(xn : Int)] ++ rs) (yn : Int) = if a < 0 then (st2.set yn (b + 1), pre ++ [(xn : Int)] ++ (rs ++ [(yn : Int)])) else (st2, pre ++ [(xn : Int)] ++ rs) from fun a b ha hb' => by
              subst ha hb'
              simp [visitP])
            have HMV := hide ((hmf.out.1.visit (x := (xn : Int)) (y := (yn : Int)) (by simp) (by omega) y1).1)
            obtain ⟨a, ha⟩ : ∃ a, st2[yn]?.getD 0 = a := ⟨_, rfl⟩
            obtain ⟨b, hbv⟩ : ∃ b, st2[xn]?.getD 0 = b := ⟨_, rfl⟩
            have hv := HST.out a b ha hbv
            rw [ha] at hcm
            rw [hbv] at hcx bx2 ost gst
            have HV := hide hv
            have Ost := hide ost
            have Gst := hide gst
            clear ha hbv hv HST ost gst hky hyn y0 hxmem
            simp only [List.length_append, List.length_cons, List.length_nil] at bx2 hle
            obtain ⟨b0, b1'⟩ := bx2
            by_cases hneg : a < 0
            · have HV2 : Hid (visitP (xn : Int) (st2, pre ++ [(xn : Int)] ++ rs) (yn : Int) = (st2.set yn (b + 1), pre ++ [(xn : Int)] ++ (rs ++ [(yn : Int)]))) := by
                have := HV.out; rw [if_pos hneg] at this; exact this
              have sg6 := hide ((sg.grown Gst.out (fun e => by injection e with e; omega)).then ((Below.refl _ _).alloc (Nat.le_refl _) (.cells #[.int .i64 (yn : Int)] 3)))
              have o76 := hide (Ost.out.alloc (.cells #[.int .i64 (yn : Int)] 3))
              have o56 := hide ((own_free o5 Gst.out (fun e => by have := (o5.lt _ e).1; omega)).alloc (.cells #[.int .i64 (yn : Int)] 3))
              have hb6 := hide ((hb.grown Gst.out hb.size (fun j e => by injection e with e; omega)).alloc (by have := hb.size; have := Gst.out.size; omega) (.cells #[.int .i64 (yn : Int)] 3))
              have bx6 := hide ((bx.grown Gst.out (fun e => by injection e with e; omega)).alloc (.cells #[.int .i64 (yn : Int)] 3))
              have hz6 := Gst.out.size
              have hnew : Hid (((wi.setCell ⟨g7, yn, none⟩ (.int .i64 (b + 1))).alloc (.cells #[.int .i64 (yn : Int)] 3)).cell? ⟨wi.heap.size, 0, none⟩ = some (.int .i64 (yn : Int))) := (World.cell?_alloc_at _ _ _ _ (by simp [World.setCell])).trans rfl
              go_wp2_with ((at_builtin; refine seg_put rfl (.tmp 51) (.tmp 53) rfl Try.underlying30 elem_int rfl sg6.out rfl hnew.out rfl (by simp; omega) (by omega) (by have := hb.size; simp; omega) ?_; intro v9 w9 g9 sg9 hg9 hgg))
              have gl := sg.lt.1
              have z6 : (wi.setCell ⟨g7, yn, none⟩ (.int .i64 (b + 1))).heap.size = wi.heap.size := by simp [World.setCell]
              have z9 := hg9.size
              rw [World.size_alloc, z6] at z9 hgg
              exact ⟨⟨k + 1, st2.set yn (b + 1), rs ++ [(yn : Int)], g9, hlt, rfl, by simpa [ints] using sg9, own_keep o76.out hg9 (fun e => by injection e with e; exact hgr e),
                own_free o56.out hg9 (fun e => by have e1 := (o56.out.lt _ e).1; have e2 := i5 _ e; omega),
                ⟨by have := HMV.out; rw [HV2.out] at this; simpa using this, by rw [hfold.out, hmf.out.2, HK.out, HV2.out]⟩, by omega, by omega, by omega,
                hb6.out.grown hg9 hb6.out.size (fun j e => by injection e with e; omega), bx6.out.grown hg9 (fun e => by injection e with e; omega)⟩, by simp [intOf]; omega⟩
            · have HV2 : Hid (visitP (xn : Int) (st2, pre ++ [(xn : Int)] ++ rs) (yn : Int) = (st2, pre ++ [(xn : Int)] ++ rs)) := by
                have := HV.out; rw [if_neg hneg] at this; exact this
              go_wp2_with fail
              exact ⟨⟨k + 1, st2, rs, gr, hlt, rfl, sg, o7, o5, ⟨hmf.out.1, by rw [hfold.out, hmf.out.2, HK.out, HV2.out]⟩, hgr, hgr2, hz, hb, bx⟩, by simp [intOf]; omega⟩
          · have hkL : Hid (k = L.length) := hide (by omega)
            go_wp2_with fail
            go_roundg f
            case rel => exact ⟨st2, pre ++ [(xn : Int)], rs, gr, sg, o7, hmf.out.1, by
                have e := hmf.out.2
                rw [hkL.out, List.take_of_length_le (Nat.le_refl _)] at e
                have e2 := hmore.out
                rw [show (pre ++ (xn : Int) :: rest)[pre.length]?.getD 0 = (xn : Int) by simp, hexp.out, e] at e2
                simpa [Hid] using e2, by simp; omega, hgr, hb, bx⟩
            case measure => omega
end Go.Proofs.Ytoapmmmmdfmaeac

/-
  The reference model's away and MovesFrom.
-/
namespace Go.Proofs.Ytoapmmmmdfmaeac
open Go.RowKit
set_option linter.unusedVariables false

set_option maxHeartbeats 2000000 in
set_option maxRecDepth 100000 in
theorem away_c (bc br cell : Int) (s : ByteArray) (far : Bool) (ss : List (Int × Int)) (w : World) (hk : kindL s.toList = some (ss, far)) (h1 : 1 ≤ bc) (h2 : bc ≤ 5) (h3 : 1 ≤ br) (h4 : br ≤ 5)
    (g1 : 0 ≤ cell) (g2 : cell < bc * br) :
    Calls Try.prog 43 #[.int .i64 bc, .int .i64 br, .string s, .int .i64 cell] w (Owns 3 1 (movesP bc br far ss cell).length (ints (movesP bc br far ss cell)) w) := by
  obtain ⟨m1, m2⟩ := mul_bd h1 h2 h3 h4
  obtain ⟨hs, hn, _⟩ := kind_ok hk
  obtain ⟨N, hN⟩ : ∃ N : Nat, bc * br = (N : Int) := ⟨(bc * br).toNat, by omega⟩
  obtain ⟨cn, rfl⟩ := Int.eq_ofNat_of_zero_le g1
  have HP := hide (show movesP bc br far ss cn = bfsP bc br far ss 26 ((List.replicate N (-1)).set cn 0, [(cn : Int)]) 0 by
    rw [movesP, hN]; rfl)
  have HM := hide (Met.start (N := N) (cell := (cn : Int)) (by omega) (by omega))
  have hcn : cn < N := by omega
  have hN1 : 1 ≤ N := by omega
  have hN2 : N ≤ 25 := by omega
  have hin := hide (fun (x : Int) => cells_in (bc := bc) (br := br) (far := far) (others := []) (cell := x) (ss := ss) h1 h2 h3 h4)
  have hreach := hide (fun (x : Int) (A : Option Addr) (w5 : World) (x0 : 0 ≤ x) (x1 : x < (N : Int)) => specReach_c bc br x s A 0 ss far [] w5 hk h1 h2 h3 h4 x0 (by omega) (Row.empty _ _) (by simp [maxLen]))
  have hNN := hide hN
  generalize hRes : movesP bc br far ss cn = res at *
  clear hRes hk g2
  have hNi : ∀ i : Nat, i < N → (i : Int) < bc * br := fun i hi => by omega
  have hNj : ∀ i : Nat, ¬ i < N → ¬ (i : Int) < bc * br := fun i hi => by omega
  have HNi := hide hNi
  have HNj := hide hNj
  clear hN hNi hNj
  go_enter Try.func43, Try.ntmps43
  go_wp2_with fail
  go_loopw [9, 10] (fun v i wr => ∃ k : Nat, k ≤ N ∧ i = .int .i64 k ∧ wr.ownsRow w.heap.size 3 1 v k (ints (List.replicate k (-1))) ∧ Below w.heap.size w wr) (fun _ i _ => N - (intOf i).toNat)
  case atStart => exact ⟨0, Nat.zero_le _, rfl, World.ownsRow_made w #[] 0 (Nat.le_refl _) (by simp [maxLen]) rfl, (Below.refl _ _).alloc (Nat.le_refl _) _⟩
  case round =>
    obtain ⟨k, hk, rfl, hown, hb⟩ := hrel
    obtain ⟨wo, rfl⟩ : ∃ wo : World, wo = wr := ⟨_, rfl⟩
    have z := hb.size
    by_cases hlt : k < N
    · have hlt2 := HNi.out k hlt
      go_wp2_with ((at_builtin; refine put_own rfl (.tmp 23) (.tmp 24) rfl Try.underlying30 elem_int' rfl (hown.alloc _) rfl (m := 1) (news := [.int .i64 (-1)]) rfl (row_new _ _ _ rfl) (by simp [Value.oneCell']) (by omega) (by omega) (by simp; omega) ?_; intro v3 w3 hown3 hg3 ho3))
      exact ⟨⟨k + 1, hlt, rfl, by rw [List.replicate_succ']; simpa [ints] using hown3, below_grown (hb.alloc z _) (by simp; omega) (hown.alloc _) (Nat.le_refl _) hg3⟩, by simp [intOf]; omega⟩
    · have hlt2 := HNj.out k hlt
      obtain rfl : k = N := by omega
      obtain ⟨g7, c7, rfl, hc71, hc72, _, hg7, _⟩ := own_one hown hN1
      have hl7 : (List.replicate k (-1 : Int)).length = k := by simp
      obtain ⟨st0, hst0⟩ : ∃ st, List.replicate k (-1 : Int) = st := ⟨_, rfl⟩
      rw [hst0] at hown hl7 HM HP
      clear hst0
      have hcell := hown.cellAt cn (by omega)
      rw [List.getElem?_eq_getElem (by simp; omega)] at hcell
      have hfree := hown.frozenAt cn
      obtain ⟨ost, gst⟩ := hown.stored cn (.int .i64 0)
      rw [ints_set] at ost
      have bst := hb.grown gst z (fun j e => by injection e with e; omega)
      have Ost := hide ost
      have zst := gst.size
      clear ost hown gst
      unfold maxLen at hc72
      have Hzs := hide (show (wo.setCell ⟨g7, cn, none⟩ (Value.int .i64 0)).heap.size = wo.heap.size by simp [World.setCell])
      go_wp2_with fail
      generalize wo.setCell ⟨g7, cn, none⟩ (Value.int .i64 0) = w3 at *
      have hz3 := bst.size
      go_loopg [11, 12] 26 (fun f v a wr => ∃ (st1 lst : List Int) (i g11 c11 : Nat), v = .slice (some ⟨g11, 0, none⟩) lst.length c11 ∧ a = .int .i64 i ∧ i ≤ lst.length ∧ wr.ownsRow w.heap.size 3 1 (.slice (some ⟨g11, 0, none⟩) lst.length c11) lst.length (ints lst) ∧ wr.ownsRow w.heap.size 3 1 (.slice (some ⟨g7, 0, none⟩) k c7) k (ints st1) ∧
          Hid (Met k (st1, lst)) ∧ Hid (bfsP bc br far ss f (st1, lst) i = res) ∧ k + 1 ≤ i + f ∧ g11 ≠ g7 ∧ c11 ≤ 9223372036854775807 ∧ Below w.heap.size w wr)
      case atStart =>
        have on := own_lt' Ost.out g7 rfl
        refine ⟨st0.set cn 0, [(cn : Int)], 0, wo.heap.size, 1, rfl, rfl, by simp, ?_, Ost.out.alloc _, HM.out, HP.out.symm, by omega, by have := Hzs.out; omega, by omega, bst.alloc hz3 _⟩
        exact ⟨by simp, .inr ⟨wo.heap.size, 1, #[.int .i64 cn], rfl, z, by rw [← Hzs.out]; exact Box.new _ _ _, Nat.le_refl _, by simp [maxLen], by simp, by simp⟩⟩
      case round =>
        clear Ost HM HP bst hz3 hb
        obtain ⟨st1, lst, i, g11, c11, rfl, rfl, hil, o11, o7, HMet, hbfs, hf, hgg, hc11, hb⟩ := hrel
        obtain ⟨wp, rfl⟩ : ∃ wp : World, wp = wr := ⟨_, rfl⟩
        have zz := hb.size
        have hll := HMet.out.le
        simp only at hll
        by_cases hi : i < lst.length
        · obtain ⟨⟨x0, x1⟩, _⟩ := HMet.out.mem lst[i] (List.getElem_mem hi)
          obtain ⟨xn, hxn⟩ := Int.eq_ofNat_of_zero_le x0
          have hlx := o11.cellAt i (by omega)
          rw [show (ints lst)[i]? = some (.int .i64 (xn : Int)) from by rw [ints, List.getElem?_map, List.getElem?_eq_getElem hi, hxn]; rfl] at hlx
          rw [hxn] at x1
          have HX := hide (show lst[i]?.getD 0 = (xn : Int) by rw [List.getElem?_eq_getElem hi, hxn]; rfl)
          have HXm := hide (show (xn : Int) ∈ lst by rw [← hxn]; exact List.getElem_mem hi)
          clear x0 hxn
          have hi25 : i ≤ 25 := by omega
          obtain ⟨f, rfl⟩ : ∃ f, gk = f + 1 := ⟨gk - 1, by omega⟩
          go_wp2_with fail
          refine (hreach.out (xn : Int) _ _ (by omega) x1).mono ?_
          rintro e w5 ⟨v5, rfl, o5, b5⟩
          obtain ⟨A5, c5, rfl, _⟩ := own_row o5
          have i7 := own_lt' o7 g7 rfl
          have i11 := own_lt' o11 g11 rfl
          have i5 := own_lt' o5
          have o7 := own_below (o7.alloc (.cells #[] 3)) b5
          have o11 := own_below (o11.alloc (.cells #[] 3)) b5
          have z5 := b5.size
          rw [World.size_alloc] at z5
          have hb := below_then (hb.alloc zz (.cells #[] 3)) (by simp; omega) b5
          have o5 := own_mono o5 (base' := wp.heap.size + 1) (by simp)
          have hmem : Hid (∀ y ∈ reachP bc br far [] (xn : Int) ss, 0 ≤ y ∧ y < (k : Int)) := fun y hy => by
            unfold reachP at hy
            rw [List.mem_mergeSort] at hy
            have := hin.out _ y hy
            rwa [hNN.out] at this
          have hexp : Hid (∀ st, expandP bc br far ss (xn : Int) st = (reachP bc br far [] (xn : Int) ss).foldl (visitP (xn : Int)) st) := fun st => rfl
          have hLl := reach_len bc br far [] (xn : Int) ss
          generalize reachP bc br far [] (xn : Int) ss = L at *
          have hmore := hide ((bfs_more bc br far ss f (st1, lst) i hi).symm.trans hbfs.out)
          clear hbfs hlx
          go_wp2_with fail
          go_loopw [11, 14] (fun v a wr => ∃ (m : Nat) (st2 lst2 : List Int) (gl cl : Nat), m ≤ L.length ∧ a = .int .i64 m ∧ v = .slice (some ⟨gl, 0, none⟩) lst2.length cl ∧ wr.ownsRow w.heap.size 3 1 (.slice (some ⟨gl, 0, none⟩) lst2.length cl) lst2.length (ints lst2) ∧
              wr.ownsRow w.heap.size 3 1 (.slice (some ⟨g7, 0, none⟩) k c7) k (ints st2) ∧ wr.ownsRow (wp.heap.size + 1) 3 1 (.slice A5 L.length c5) L.length (ints L) ∧
              Hid (Met k (st2, lst2) ∧ (L.take m).foldl (visitP (xn : Int)) (st1, lst) = (st2, lst2) ∧ (∃ t, lst2 = lst ++ t)) ∧ gl ≠ g7 ∧ cl ≤ 9223372036854775807 ∧ (gl < wp.heap.size ∨ w5.heap.size ≤ gl) ∧ w5.heap.size ≤ wr.heap.size ∧ Below w.heap.size w wr) (fun _ a _ => L.length - (intOf a).toNat)
          case atStart => exact ⟨0, st1, lst, g11, c11, Nat.zero_le _, rfl, rfl, o11, o7, o5, ⟨HMet.out, by simp, [], by simp⟩, hgg, hc11, .inl i11, Nat.le_refl _, hb⟩
          case round =>
            clear o7 o11 o5 hb HMet hgg hc11 i11 hll
            obtain ⟨m, st2, lst2, gl, cl, hm, rfl, rfl, o11, o7, o5, hmf, hgr, hcl, hgr2, hz, hb⟩ := hrel
            obtain ⟨wi, rfl⟩ : ∃ wi : World, wi = wr := ⟨_, rfl⟩
            have hll2 := hmf.out.1.le
            simp only at hll2
            by_cases hlt : m < L.length
            · obtain ⟨ad, rfl, hcy⟩ := (own_reads' o5).int hlt
              obtain ⟨y0, y1⟩ := hmem.out _ (show L[m] ∈ L from List.getElem_mem hlt)
              have hky : L[m]?.getD 0 = L[m] := by rw [List.getElem?_eq_getElem hlt]; rfl
              obtain ⟨yn, hyn⟩ := Int.eq_ofNat_of_zero_le y0
              rw [hky, hyn] at hcy
              rw [hyn] at y1 hky
              have hyN : yn < k := by omega
              have hxN : xn < k := by omega
              have HK := hide hky
              have hxm2 : Hid ((xn : Int) ∈ lst2) := by obtain ⟨t, e⟩ := hmf.out.2.2; rw [e]; exact List.mem_append_left _ HXm.out
              have hi2 : i < lst2.length := by obtain ⟨t, e⟩ := hmf.out.2.2; rw [e, List.length_append]; omega
              have hlx := o11.cellAt i (by omega)
              rw [show (ints lst2)[i]? = some (.int .i64 (xn : Int)) from by
                obtain ⟨t, e⟩ := hmf.out.2.2
                have := HX.out
                rw [List.getElem?_eq_getElem hi, Option.getD_some] at this
                rw [e, ints, List.getElem?_map, List.getElem?_append_left hi, List.getElem?_eq_getElem hi, this]; rfl] at hlx
              have hl2 : Hid (st2.length = k) := hmf.out.1.len
              have hcm := o7.cellAt yn (by omega)
              have hcx := o7.cellAt xn (by omega)
              have hfm := o7.frozenAt yn
              have bx2 := hmf.out.1.at_bd (xn : Int) (by omega) (by omega)
              simp only [Int.toNat_natCast] at bx2
              rw [show (ints st2)[yn]? = some (.int .i64 (st2[yn]?.getD 0)) from by rw [ints, List.getElem?_map, List.getElem?_eq_getElem (by rw [hl2.out]; exact hyN)]; rfl] at hcm
              rw [show (ints st2)[xn]? = some (.int .i64 (st2[xn]?.getD 0)) from by rw [ints, List.getElem?_map, List.getElem?_eq_getElem (by rw [hl2.out]; exact hxN)]; rfl] at hcx
              have hfold := hide (fold_snoc (xn : Int) L m hlt (st1, lst))
              have HST := hide (show ∀ a b, st2[yn]?.getD 0 = a → st2[xn]?.getD 0 = b → visitP (xn : Int) (st2, lst2) (yn : Int) = if a < 0 then (st2.set yn (b + 1), lst2 ++ [(yn : Int)]) else (st2, lst2) from fun a b ha hb' => by
                subst ha hb'
                simp [visitP])
              have HMV := hide ((hmf.out.1.visit (x := (xn : Int)) (y := (yn : Int)) hxm2.out (by omega) y1).1)
              obtain ⟨a, ha⟩ : ∃ a, st2[yn]?.getD 0 = a := ⟨_, rfl⟩
              obtain ⟨b, hbv⟩ : ∃ b, st2[xn]?.getD 0 = b := ⟨_, rfl⟩
              have hv := HST.out a b ha hbv
              rw [ha] at hcm
              rw [hbv] at hcx bx2
              have HV := hide hv
              clear ha hbv hv HST hky hyn y0
              obtain ⟨b0, b1'⟩ := bx2
              by_cases hneg : a < 0
              · have HV2 : Hid (visitP (xn : Int) (st2, lst2) (yn : Int) = (st2.set yn (b + 1), lst2 ++ [(yn : Int)])) := by
                  have := HV.out; rw [if_pos hneg] at this; exact this
                have ewr : IntKind.i64.wrap (b + 1) = b + 1 := IntWalk.i64_in _ (by omega)
                go_wp2_with fail
                go_still_tail 14, (by kernel_rfl)
                have o7d := o7.drew
                have o11d := o11.drew
                have o5d := o5.drew
                have hbd := hb.drew
                have hzd : w5.heap.size ≤ wi.drew.heap.size := hz
                have hcmd : wi.drew.cell? ⟨g7, yn, none⟩ = some (.int .i64 a) := hcm
                have hfmd : wi.drew.frozen? ⟨g7, yn, none⟩ = false := hfm
                have hcyd : wi.drew.cell? (ad.add m) = some (.int .i64 (yn : Int)) := hcy
                have hlxd : wi.drew.cell? ⟨gl, i, none⟩ = some (.int .i64 (xn : Int)) := hlx
                have hcxd : wi.drew.cell? ⟨g7, xn, none⟩ = some (.int .i64 b) := hcx
                change wpList _ _ _ _ _ wi.drew
                clear o7 o11 o5 hb hz hcm hfm hcy hlx hcx
                generalize wi.drew = wd at *
                obtain ⟨Ost, Gst⟩ := o7d.stored yn (.int .i64 (b + 1))
                rw [ints_set] at Ost
                have o11x := own_free o11d Gst (fun e => by simp [Value.ownBlock] at e; exact hgr e)
                have o5x := own_free o5d Gst (fun e => by have := (o5d.lt _ e).1; omega)
                have hb6 := hbd.grown Gst hbd.size (fun j e => by injection e with e; omega)
                have hz6 := Gst.size
                have hcy6 := (Gst.cell hcyd (fun e => by
                  have e1 := (o5d.lt (ad.add m).block (by rw [addr_block]; rfl)).1
                  injection e with e; omega))
                have Ost := hide Ost
                have Gst := hide Gst
                have Hz := hide (show (wd.setCell ⟨g7, yn, none⟩ (Value.int .i64 (b + 1))).heap.size = wd.heap.size by simp [World.setCell])
                go_wp2_with ((at_builtin; refine put_own rfl (.tmp 74) (.tmp 79) rfl Try.underlying30 elem_int' rfl (o11x.alloc _) rfl (m := 1) (news := [.int .i64 (yn : Int)]) rfl (row_new _ _ _ (by simp [World.setCell])) (by simp [Value.oneCell']) (by omega) (by omega) (by have := hbd.size; simp; omega) ?_; intro v9 w9 hown9 hg9 hgg))
                have own9 : w9.ownsRow w.heap.size 3 1 v9 (lst2 ++ [(yn : Int)]).length (ints (lst2 ++ [(yn : Int)])) := by simpa [ints] using hown9
                obtain ⟨g9, c9, rfl, _, hc92, _⟩ := own_one own9 (by simp)
                have hg9' : ((wd.setCell ⟨g7, yn, none⟩ (Value.int .i64 (b + 1))).alloc (.cells #[.int .i64 (yn : Int)] 3)).grownBy w9 (some gl) := hg9
                have hgg2 : some g9 = some gl ∨ some g9 = some ((wd.setCell ⟨g7, yn, none⟩ (Value.int .i64 (b + 1))).alloc (.cells #[.int .i64 (yn : Int)] 3)).heap.size := hgg
                rw [World.size_alloc, Hz.out, Option.some.injEq, Option.some.injEq] at hgg2
                have z9 := hg9'.size
                rw [World.size_alloc, Hz.out] at z9
                have e5 := o5d.lt ad.block rfl
                have i5' := i5 ad.block rfl
                unfold maxLen at hc92
                exact ⟨⟨m + 1, st2.set yn (b + 1), lst2 ++ [(yn : Int)], g9, c9, hlt, by go_num, by simp, own9, own_keep (Ost.out.alloc _) hg9' (fun e => by injection e with e; exact hgr e),
                  own_free (o5x.alloc _) hg9' (fun e => by simp only [Value.ownBlock, Option.some.injEq] at e; omega),
                  ⟨by have := HMV.out; rw [HV2.out] at this; exact this, by rw [hfold.out, hmf.out.2.1, HK.out, HV2.out], by obtain ⟨t, e⟩ := hmf.out.2.2; exact ⟨t ++ [(yn : Int)], by rw [e, List.append_assoc]⟩⟩,
                  by omega, by omega, by omega, by omega, (hb6.alloc hb6.size _).grown hg9' (by have := hb6.size; simp; omega) (fun j e => by have := (o11d.lt gl rfl).1; injection e with e; omega)⟩, by simp [intOf]; omega⟩
              · have HV2 : Hid (visitP (xn : Int) (st2, lst2) (yn : Int) = (st2, lst2)) := by
                  have := HV.out; rw [if_neg hneg] at this; exact this
                go_wp2_with fail
                exact ⟨⟨m + 1, st2, lst2, gl, cl, hlt, rfl, rfl, o11, o7, o5, ⟨hmf.out.1, by rw [hfold.out, hmf.out.2.1, HK.out, HV2.out], hmf.out.2.2⟩, hgr, hcl, hgr2, hz, hb⟩, by simp [intOf]; omega⟩
            · have hkL : Hid (m = L.length) := hide (by omega)
              go_wp2_with fail
              go_roundg f
              case rel => exact ⟨st2, lst2, i + 1, gl, cl, rfl, rfl, by obtain ⟨t, e⟩ := hmf.out.2.2; rw [e, List.length_append]; omega, o11, o7, hmf.out.1, by
                  have e := hmf.out.2.1
                  rw [hkL.out, List.take_of_length_le (Nat.le_refl _)] at e
                  have e2 := hmore.out
                  rw [show (st1, lst).2[i]?.getD 0 = (xn : Int) from HX.out, hexp.out, e] at e2
                  exact e2, by omega, hgr, hcl, hb⟩
              case measure => omega
        · have hres : Hid (res = st1) := by rw [← hbfs.out, bfs_end]; exact rfl; exact hi
          have hlen : Hid (st1.length = k) := HMet.out.len
          go_wp2_with fail
          go_ret
          refine ⟨_, rfl, ?_, hb⟩
          rw [hres.out, hlen.out]
          exact o7
end Go.Proofs.Ytoapmmmmdfmaeac

/-
  MovesFrom of the program.
-/
namespace Go.Proofs.Ytoapmmmmdfmaeac
open Go.RowKit
set_option linter.unusedVariables false

end Go.Proofs.Ytoapmmmmdfmaeac

/-
  MovesFrom of the model; the walk of the law FnExactMovesFrom.
-/
namespace Go.Proofs.Ytoapmmmmdfmaeac
open Go.RowKit
set_option linter.unusedVariables false

theorem bfs_len (bc br : Int) (far : Bool) (ss : List (Int × Int)) {N : Nat} (hin : ∀ x, ∀ y ∈ reachP bc br far [] x ss, 0 ≤ y ∧ y < (N : Int)) (f : Nat) (st : List Int × List Int) (i : Nat) (h : Met N st) : (bfsP bc br far ss f st i).length = N := by
  induction f generalizing st i with
  | zero => exact h.len
  | succ f ih =>
    unfold bfsP
    split
    · rename_i hi
      refine ih _ _ ?_
      refine (fold_met _ _ (hin _) h ?_).1
      rw [List.getElem?_eq_getElem hi, Option.getD_some]
      exact List.getElem_mem hi
    · exact h.len
theorem movesFromP_len (bc br : Int) (s : List UInt8) (cell : Int) : (movesFromP bc br s cell).length ≤ 25 := by
  unfold movesFromP
  cases hk : kindL s with
  | none => simp
  | some p =>
    obtain ⟨ss, far⟩ := p
    simp only
    split
    · rename_i h
      obtain ⟨⟨h1, h2, h3, h4⟩, g1, g2⟩ := h
      obtain ⟨m1, m2⟩ := mul_bd h1 h2 h3 h4
      obtain ⟨N, hN⟩ : ∃ N : Nat, bc * br = (N : Int) := ⟨(bc * br).toNat, by omega⟩
      have hm := Met.start (N := N) (cell := cell) g1 (by omega)
      unfold movesP
      rw [hN]
      rw [show ((N : Int)).toNat = N from rfl]
      rw [bfs_len bc br far ss (fun x y hy => by
        unfold reachP at hy
        rw [List.mem_mergeSort] at hy
        have := cells_in h1 h2 h3 h4 y hy
        rwa [hN] at this) 26 _ 0 hm]
      omega
    · simp

end Go.Proofs.Ytoapmmmmdfmaeac
