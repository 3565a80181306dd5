
/-
  The program's pegs: JumpsOf.
-/
import Derived.Test.YtgbbmnnpphkkbaaPPegL
import Derived.Test.YtgbbmnnpphkkbaaPPegC
namespace Go.Proofs.Ytgbbmnnpphkkbaa
open Go.RowKit
set_option linter.unusedVariables false

theorem own_lit3P (w : World) (a b c : Int) : (w.alloc (.cells #[.int .i64 a, .int .i64 b, .int .i64 c] 3)).ownsRow w.heap.size 3 1 (.slice (some ⟨w.heap.size, 0, none⟩) 3 3) 3 (ints [a, b, c]) :=
  ⟨by simp, .inr ⟨w.heap.size, 3, #[.int .i64 a, .int .i64 b, .int .i64 c], rfl, Nat.le_refl _, heap_alloc_new w _, Nat.le_refl _, by simp [maxLen], rfl, by simp⟩⟩
/-- One more row of three numbers of its own. -/
theorem rows_push {B : Nat} {wo w' : World} {v : Value} {vs : List Value} {L : List (List Int)} {a b c : Int} (hown : wo.ownsRow B 27 1 v vs.length vs) (hrs : Rows1 B wo vs L) (hap : Apart vs) (hB : B ≤ wo.heap.size)
    (hg : ((wo.alloc (.cells #[.int .i64 a, .int .i64 b, .int .i64 c] 3)).alloc (.cells #[.slice (some ⟨wo.heap.size, 0, none⟩) 3 3] 27)).grownBy w' v.ownBlock) :
    Rows1 B w' (vs ++ [.slice (some ⟨wo.heap.size, 0, none⟩) 3 3]) (L ++ [[a, b, c]]) ∧ Apart (vs ++ [.slice (some ⟨wo.heap.size, 0, none⟩) 3 3]) := by
  have hlt : ∀ u ∈ vs, ∀ g, u.ownBlock = some g → g < wo.heap.size ∧ v.ownBlock ≠ some g := fun u hu g e => by
    obtain ⟨x, A, c', _, ho⟩ := hrs.mem u hu
    refine ⟨(ho.lt g e).2, fun e' => ?_⟩
    obtain ⟨cur, h1⟩ := own_type ho e
    obtain ⟨cur', h2⟩ := own_type hown e'
    rw [h1] at h2
    simp at h2
  have hv : v.ownBlock ≠ some wo.heap.size := fun e => by have := (hown.lt _ e).2; omega
  have h1 : Rows1 B w' vs L := hrs.same fun u hu g e => by
    obtain ⟨e1, e2⟩ := hlt u hu g e
    rw [hg.block g (by simp; omega) (fun h => e2 h.symm), Below.heap_alloc _ _ g (by simp; omega), Below.heap_alloc _ _ g e1]
  have h2 : w'.ownsRow B 3 1 (.slice (some ⟨wo.heap.size, 0, none⟩) 3 3) 3 (ints [a, b, c]) := by
    have o1 := own_mono (own_lit3P wo a b c) hB
    have o2 := o1.alloc (.cells #[.slice (some ⟨wo.heap.size, 0, none⟩) 3 3] 27)
    exact o2.kept hg (.inr (fun e => hv e.symm))
  refine ⟨h1.snoc (x := [a, b, c]) h2, hap.snoc fun u hu g e e' => ?_⟩
  have := (hlt u hu g e).1
  have e' : some wo.heap.size = some g := e'
  injection e' with e'
  omega
set_option maxHeartbeats 4000000 in
set_option maxRecDepth 100000 in
theorem implJumpsOf_c (bc br s : Int) (W : World) : Calls Try.prog 8 #[.int .i64 bc, .int .i64 br, .int .i64 s] W (Rowset W.heap.size (jumpV bc br s) W) := by
  rcases lit1_c bc br s W with ⟨w, h, x, rfl, rfl, rfl, hw, hh, h12, hx, hC⟩ | ⟨hN, hC⟩
  · have HC := hide hC
    rw [jumpV_nat hw hh h12 hx]
    have HJ := hide (fun w6 => jumpsOf_c w h x w6 hw hh h12 (peg_lt h12 hx))
    have hl := jump_len (w := w) x h12
    generalize jumpL w (w * h) x = J at *
    clear hC hx hh h12
    go_enter Try.func8, Try.ntmps8
    go_wp2_with fail
    refine HC.out.mono ?_
    rintro e wa ⟨rfl, b1⟩
    have hb1 : Below W.heap.size W wa := below_then ((Below.refl _ _).alloc (Nat.le_refl _) _) (by simp) b1
    have hb2 := hb1.alloc hb1.size (.cells #[.int .i64 (w : Int), .int .i64 (h : Int)] 40)
    clear b1 HC
    go_wp2_with fail
    refine (HJ.out _).mono ?_
    rintro e w2 ⟨vj, rfl, oj, bj⟩
    have hb3 := below_then hb2 hb2.size bj
    have oj := own_mono oj hb2.size
    obtain ⟨Aj, cj, rfl, _⟩ := own_row oj
    clear hb1 hb2 bj
    go_wp2_with fail
    go_loopw [9, 26] (fun v i wr => ∃ (q : Nat) (vs : List Value), q ≤ J.length ∧ i = .int .i64 (q : Int) ∧ wr.ownsRow W.heap.size 27 1 v vs.length vs ∧ Hid (Rows1 W.heap.size wr vs (jumpI (J.take q))) ∧ Hid (Apart vs) ∧ Below W.heap.size W wr ∧ wr.ownsRow W.heap.size 46 3 (.slice Aj J.length cj) J.length (cells3 J)) (fun _ i _ => J.length - (intOf i).toNat)
    case atStart => exact ⟨0, [], Nat.zero_le _, rfl, World.ownsRow_nil _ _ _ _, Rows1.nil _ _, fun i j u v g h => by simp at h, hb3, oj⟩
    case round =>
      clear hb3 oj
      obtain ⟨q, vs, hq, rfl, own, hrs, hap, hb, oj⟩ := hrel
      obtain ⟨wi, rfl⟩ : ∃ wi : World, wi = wr := ⟨_, rfl⟩
      by_cases hql : q < J.length
      · obtain ⟨gj, cj', ej, _, _⟩ := own_addrP oj (by omega)
        injection ej with ej _ ec
        subst ej
        subst ec
        obtain ⟨cc0, cc1, cc2⟩ := cells3_at J q hql
        have rj := own_reads oj
        have r0 : wi.cell? ⟨gj, q * 3, none⟩ = some (.int .i64 (((J[q]?.getD (0, 0, 0)).1 : Nat) : Int)) := by
          obtain ⟨hl, e⟩ := List.getElem?_eq_some_iff.1 cc0
          obtain ⟨_, ⟨rfl⟩, hc⟩ := rj (q * 3) hl
          rw [add0P] at hc
          rw [hc, e]
        have r1 : wi.cell? ⟨gj, q * 3 + 1, none⟩ = some (.int .i64 (((J[q]?.getD (0, 0, 0)).2.1 : Nat) : Int)) := by
          obtain ⟨hl, e⟩ := List.getElem?_eq_some_iff.1 cc1
          obtain ⟨_, ⟨rfl⟩, hc⟩ := rj (q * 3 + 1) hl
          rw [add0P] at hc
          rw [hc, e]
        have r2 : wi.cell? ⟨gj, q * 3 + 2, none⟩ = some (.int .i64 (((J[q]?.getD (0, 0, 0)).2.2 : Nat) : Int)) := by
          obtain ⟨hl, e⟩ := List.getElem?_eq_some_iff.1 cc2
          obtain ⟨_, ⟨rfl⟩, hc⟩ := rj (q * 3 + 2) hl
          rw [add0P] at hc
          rw [hc, e]
        have hvl : vs.length ≤ 144 := by rw [hrs.out.1, jumpI_len, List.length_take]; omega
        have HT := hide (show jumpI (J.take (q + 1)) = jumpI (J.take q) ++ [rowJ (J[q]?.getD (0, 0, 0))] by
          rw [List.take_succ_eq_append_getElem hql, jumpI_app, List.getElem?_eq_getElem hql]
          rfl)
        generalize J[q]?.getD (0, 0, 0) = jj at *
        obtain ⟨ji, jo, jl⟩ := jj
        simp only at r0 r1 r2
        have q0 : (0 : Int) ≤ (q : Int) := by omega
        have q1 : (q : Int) < (J.length : Int) := by omega
        have HQ := hide hql
        have own1 := own.alloc (.cells #[.int .i64 (ji : Int), .int .i64 (jo : Int), .int .i64 (jl : Int)] 46)
        have oj1 := oj.alloc (.cells #[.int .i64 (ji : Int), .int .i64 (jo : Int), .int .i64 (jl : Int)] 46)
        have hb1 := hb.alloc hb.size (.cells #[.int .i64 (ji : Int), .int .i64 (jo : Int), .int .i64 (jl : Int)] 46)
        have rs1 := hrs.out.below ((Below.refl wi.heap.size wi).alloc (Nat.le_refl _) (.cells #[.int .i64 (ji : Int), .int .i64 (jo : Int), .int .i64 (jl : Int)] 46))
        have OW := hide (And.intro own1 (And.intro rs1 (And.intro hb1 oj1)))
        have own3 := (own1.alloc (.cells #[.int .i64 (ji : Int), .int .i64 (jo : Int), .int .i64 (jl : Int)] 3)).alloc (.cells #[.slice (some ⟨wi.heap.size + 1, 0, none⟩) 3 3] 27)
        have hb3 := (hb1.alloc hb1.size (.cells #[.int .i64 (ji : Int), .int .i64 (jo : Int), .int .i64 (jl : Int)] 3))
        have hb4 := hide (hb3.alloc hb3.size (.cells #[.slice (some ⟨wi.heap.size + 1, 0, none⟩) 3 3] 27))
        obtain ⟨A9, c9, rfl, _⟩ := own_row own
        clear own oj hb hrs own1 oj1 hb1 rs1 hb3 cc0 cc1 cc2 rj
        go_wp2_with ((at_builtin; refine put_own rfl (.tmp 30) (.tmp 38) rfl Try.underlying22 elem_rows rfl own3 rfl (m := 1) (news := [.slice (some ⟨wi.heap.size + 1, 0, none⟩) 3 3]) rfl (row_new _ _ _ (by first | rfl | simp)) (by simp [Value.oneCell']) (by omega) (by omega) hb4.out.size ?_; intro v5 w5 own5 hg5 ho5))
        obtain ⟨own1, rs1, hb1, oj1⟩ := OW.out
        have hg5 : World.grownBy _ w5 (Value.slice A9 vs.length c9).ownBlock := hg5
        obtain ⟨h1, h2⟩ := rows_push (B := W.heap.size) (a := (ji : Int)) (b := (jo : Int)) (c := (jl : Int)) own1 rs1 hap.out hb1.size (by simpa using hg5)
        have oj5 := ((oj1.alloc (.cells #[.int .i64 (ji : Int), .int .i64 (jo : Int), .int .i64 (jl : Int)] 3)).alloc (.cells #[.slice (some ⟨wi.heap.size + 1, 0, none⟩) 3 3] 27)).kept hg5 (by
          cases hv : (Value.slice (some ⟨gj, 0, none⟩) J.length cj).ownBlock with
          | none => exact .inl rfl
          | some g =>
            right
            intro e
            obtain ⟨cur, t1⟩ := own_type oj1 hv
            obtain ⟨cur', t2⟩ := own_type own1 e.symm
            rw [t1] at t2
            simp at t2)
        refine ⟨⟨q + 1, vs ++ [.slice (some ⟨wi.heap.size + 1, 0, none⟩) 3 3], HQ.out, by go_num, by rw [List.length_append]; exact own5, ?_, ?_, below_grown hb4.out hb4.out.size own3 (Nat.le_refl _) hg5, oj5⟩, by simp [intOf]; omega⟩
        · show Rows1 _ _ _ _
          rw [HT.out]
          simp only [World.size_alloc] at h1
          exact h1
        · show Apart _
          simp only [World.size_alloc] at h2
          exact h2
      · obtain rfl : q = J.length := by omega
        have hrs := hrs.out
        rw [List.take_length] at hrs
        have HRS := hide hrs
        clear hrs
        go_wp2_with fail
        go_ret
        exact ⟨_, vs, rfl, own, HRS.out, hap.out, hb⟩
  · have hc : jumpV bc br s = [] := by unfold jumpV; rw [if_neg hN]
    have HC := hide hC
    rw [hc]
    clear hC hc hN
    go_enter Try.func8, Try.ntmps8
    go_wp2_with fail
    refine HC.out.mono ?_
    rintro e wa ⟨rfl, b1⟩
    have hb1 : Below W.heap.size W wa := below_then ((Below.refl _ _).alloc (Nat.le_refl _) _) (by simp) b1
    go_wp2_with fail
    go_ret
    exact ⟨_, [], rfl, World.ownsRow_nil _ _ _ _, Rows1.nil _ _, fun i j u v g h => by simp at h, hb1.alloc hb1.size _⟩
end Go.Proofs.Ytgbbmnnpphkkbaa
