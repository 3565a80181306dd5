
/-
  The reference model's ascending: numbers put into their places one by one.
-/
import Derived.Test.YtakphmcelhbaiabSpecB
import Derived.Test.YtakphmcelhbaiabAscP
import Derived.Deep.DeepCutAuto
import Derived.Deep.CutRange
import Derived.Deep.RegionHeld3
import Derived.Deep.AppendLies
namespace Go.Proofs.Ytakphmcelhbaiab
open Go.RowKit
set_option linter.unusedVariables false

theorem elem_int' : Elem Try.prog 3 1 8 := Elem.of (z := .int .i64 0) (by kernel_rfl) rfl (by omega)

/-- An append to a row of the call's own, as a step of a region that draws its order. -/
theorem step_put {P : Program} {ops : Array Oper} {o : Oper} {a : Act} {w : World} {K : Act → World → Prop} {Q : Exit → Act → World → Prop} {E : Prop} (hgd : o.guard = none) (s x : Operand) {t : TypeId}
    (ho : o.op = .call { callee := .builtin .append, args := #[s, x], argTypes := #[t, t] })
    {e : TypeId} {size bytes : Nat} (ht : P.underlying t = some (.slice e)) (he : Elem P e size bytes)
    {B n m c : Nat} {v : Value} {xs news : List Value} {A : Option Addr} (hs : a.eval s = v) (hown : w.ownsRow B e size v n xs) (hx : a.eval x = .slice A m c) (hl : news.length = m * size) (hr : Row w A news)
    (h1 : ∀ u ∈ news, u.oneCell' = true) (hsmall : n + m ≤ 1099511627776) (hbytes : bytes ≤ 100) (hB : B ≤ w.heap.size)
    (h : ∀ v' w', w'.ownsRow B e size v' (n + m) (xs ++ news) → w.grownBy w' v.ownBlock → (v'.ownBlock = v.ownBlock ∨ v'.ownBlock = some w.heap.size) → K (a.put o.dst v') w') :
    if Region.wanted o (yielded ops a.tmps) = true then Oper.wp P o a w K Q else E := by
  have hw : Region.wanted o (yielded ops a.tmps) = true := by simp [Region.wanted, hgd]
  rw [if_pos hw]
  obtain ⟨v', w', hrun, h2, h3, h4⟩ := put_run (P := P) w o.type ht he (c := c) hown hl hr h1 hsmall hbytes hB
  unfold Oper.wp execOp
  simp only [ho, resolve, invoke, builtin, Sem.run_bind, Sem.run_pure, Result.andThen_ok, List.map_toArray, List.map_cons, List.map_nil, hs, hx, hrun]
  exact h v' w' h2 h3 h4

theorem one_ints (l : List Int) : ∀ u ∈ ints l, u.oneCell' = true := by
  intro u hu
  simp only [ints, List.mem_map] at hu
  obtain ⟨g, _, rfl⟩ := hu
  rfl
theorem Row.upto {w : World} {A : Option Addr} {out : List Int} (h : Row w A (ints out)) (j : Nat) : Row w A (ints (out.take j)) := fun i hi => by
  simp only [ints, List.length_map, List.length_take] at hi
  obtain ⟨ad, e, hc⟩ := h i (by simp; omega)
  exact ⟨ad, e, by rw [hc]; simp⟩
theorem Row.cut {w : World} {ao : Addr} {out : List Int} (h : Row w (some ao) (ints out)) {j c : Nat} (hj : j ≤ out.length) (hc : out.length ≤ c) : Row w (if c = j then some ao else some (ao.add j)) (ints (out.drop j)) := fun i hi => by
  simp only [ints, List.length_map, List.length_drop] at hi
  obtain ⟨_, ⟨rfl⟩, hc⟩ := h (j + i) (by simp; omega)
  rw [if_neg (by omega)]
  exact ⟨_, rfl, by rw [addr_far, hc]; simp⟩
set_option maxHeartbeats 2000000 in
set_option maxRecDepth 100000 in
theorem asc_ins (L : Option Addr) (lc : Nat) (l : List Int) (w : World) (hr : Row w L (ints l)) (hm : l.length ≤ 1000000) :
    Calls Try.prog 50 #[.slice L l.length lc] w (Owns 3 1 (ascP l).length (ints (ascP l)) w) := by
  go_enter Try.func50, Try.ntmps50
  go_wp2_with fail
  go_loopw [3, 4] (fun v i wr => ∃ (k : Nat) (out : List Int), k ≤ l.length ∧ i = .int .i64 k ∧ out.length = k ∧ Hid (out = ascP (l.take k)) ∧ wr.ownsRow w.heap.size 3 1 v out.length (ints out) ∧ Below w.heap.size w wr ∧ Hid (∃ ao c, v = .slice (some ao) out.length c)) (fun _ i _ => l.length - (intOf i).toNat)
  case atStart => exact ⟨0, [], Nat.zero_le _, rfl, rfl, rfl, World.ownsRow_made w #[] 0 (Nat.le_refl _) (by simp [maxLen]) rfl, (Below.refl _ _).alloc (Nat.le_refl _) _, ⟨_, _, rfl⟩⟩
  case round =>
    obtain ⟨k, out, hk, rfl, hlen, hacc, hown, hb, hform⟩ := hrel
    obtain ⟨wo, rfl⟩ : ∃ wo : World, wo = wr := ⟨_, rfl⟩
    obtain ⟨A, c, rfl, hc1, hc2, hro, hfr⟩ := own_row hown
    obtain ⟨ao, rfl⟩ : ∃ ao, A = some ao := by
      obtain ⟨ao, c', e⟩ := hform.out
      injection e with e
      exact ⟨_, e⟩
    clear hform
    have HL := hide hlen
    have Hfr := hide hfr
    clear hlen hfr
    unfold maxLen at hc2
    have hol : out.length ≤ 1000000 := by have := HL.out; omega
    have z := hb.size
    by_cases hlt : k < l.length
    · obtain ⟨ad, rfl, hca⟩ := (hr.below hb).int hlt
      obtain ⟨x, hx⟩ : ∃ x, l[k]?.getD 0 = x := ⟨_, rfl⟩
      rw [hx] at hca
      have X := hide hx
      clear hx
      go_wp2_with fail
      go_loopw [5] (fun i wr => ∃ j : Nat, j ≤ out.length ∧ i = .int .i64 j ∧ Hid (∀ m, m < j → out[m]?.getD 0 < x) ∧ Below wo.heap.size wo wr) (fun i _ => out.length - (intOf i).toNat)
      case atStart => exact ⟨0, Nat.zero_le _, rfl, fun m h => absurd h (by omega), Below.refl _ _⟩
      case round =>
        obtain ⟨j, hj, rfl, hbef, hb2⟩ := hrel
        obtain ⟨wi, rfl⟩ : ∃ wi : World, wi = wr := ⟨_, rfl⟩
        have hca2 := (hb2.cell (World.block_lt_of_cell? _ _ hca)).trans hca
        by_cases hj2 : j < out.length
        · obtain ⟨ao', e, hco⟩ := (hro.below hb2).int hj2
          obtain rfl : ao = ao' := by injection e
          clear e
          obtain ⟨y, hy⟩ : ∃ y, out[j]?.getD 0 = y := ⟨_, rfl⟩
          rw [hy] at hco
          have Y := hide hy
          clear hy
          have hdj : decide ((j : Int) < (out.length : Int)) = true := by simp; omega
          by_cases hyx : y < x
          · go_wp2_with fail
            go_quiet (fail)
            all_goals go_wp2_with fail
            exact ⟨⟨j + 1, hj2, rfl, fun m h => by
              by_cases e : m = j
              · subst e; rw [Y.out]; exact hyx
              · exact hbef.out m (by omega), below_drewN hb2 _⟩, by simp [intOf]; omega⟩
          · have hnext := hide (ins_at hbef.out hj (.inr (by rw [Y.out]; omega)))
            go_wp2_with fail
            go_quiet (fail)
            all_goals go_wp2_with fail
            have hb3 := below_drewN hb2 nq
            have hcq : (wi.drewN nq).cell? (ad.add k) = some (.int .i64 x) := hca2
            generalize wi.drewN nq = wq at *
            have b1 : (0 : Int) ≤ (j : Int) := by omega
            have b2 : (j : Int) ≤ (out.length : Int) := by omega
            have b3 : (out.length : Int) ≤ (c : Int) := by omega
            have b4 : (j : Int) ≤ (c : Int) := by omega
            have hadb : (ad.add k).block < wq.heap.size := World.block_lt_of_cell? _ _ hcq
            have mk0 := World.ownsRow_made (base := wq.heap.size) (e := 3) (size := 1) wq #[] 0 (Nat.le_refl _) (by simp [maxLen]) rfl
            have mkc := World.ownsRow_made (base := wq.heap.size) (e := 3) (size := 1) (wq.alloc (.cells #[.int .i64 x] 3)) #[] 0 (by simp) (by simp [maxLen]) rfl
            rw [World.size_alloc] at mkc
            have rq : Row wq (some ao) (ints out) := hro.below hb3
            have rt := rq.upto j
            have rd := rq.cut (j := j) (c := c) (by omega) (by omega)
            have hba : Below wq.heap.size wq (wq.alloc (.cells #[] 3)) := (Below.refl _ _).alloc (Nat.le_refl _) _
            have hbb : Below wq.heap.size wq ((wq.alloc (.cells #[] 3)).alloc (.cells #[.int .i64 x] 3)) := hba.alloc (by simp) _
            have hbc : Below wq.heap.size wq ((wq.alloc (.cells #[.int .i64 x] 3)).alloc (.cells #[] 3)) := ((Below.refl _ _).alloc (Nat.le_refl _) _).alloc (by simp) _
            have rxb : Row ((wq.alloc (.cells #[] 3)).alloc (.cells #[.int .i64 x] 3)) (some ⟨wq.heap.size + 1, 0, none⟩) [.int .i64 x] := row_new _ _ _ (by simp)
            have rxc : Row ((wq.alloc (.cells #[.int .i64 x] 3)).alloc (.cells #[] 3)) (some ⟨wq.heap.size, 0, none⟩) [.int .i64 x] := (row_new wq #[.int .i64 x] 3 rfl).alloc _
            go_region_held3 (fun w' => w'.cell? (ad.add k) = some (.int .i64 x)) (go_keep)
              (first
                | (refine step_put (by rfl) (.tmp 30) (.tmp 33) (by rfl) Try.underlying22 elem_int' (v := .slice (some ⟨wq.heap.size, 0, none⟩) 0 0) (A := some ao) (m := j) (c := c) (xs := []) (news := ints (out.take j)) (B := wq.heap.size) (by rfl) (mk0.drew) (by rfl) (by simp; omega) (rt.below hba.drew) (one_ints _) (by omega) (by omega) (by simp) ?_
                   intro v2 w2 hown2 hg2 ho2
                   have hb2' := below_grown hba.drew (by simp) mk0.drew (Nat.le_refl _) hg2
                   have hk2 := (hb2'.cell hadb).trans hcq)
                | (refine step_put (by rfl) (.tmp 30) (.tmp 33) (by rfl) Try.underlying22 elem_int' (v := .slice (some ⟨wq.heap.size, 0, none⟩) 0 0) (A := some ao) (m := j) (c := c) (xs := []) (news := ints (out.take j)) (B := wq.heap.size) (by rfl) ((mk0.alloc (.cells #[.int .i64 x] 3)).drew) (by rfl) (by simp; omega) (rt.below hbb.drew) (one_ints _) (by omega) (by omega) (by simp; omega) ?_
                   intro v2 w2 hown2 hg2 ho2
                   have hb2' := below_grown hbb.drew (by simp; omega) (mk0.alloc (.cells #[.int .i64 x] 3)).drew (Nat.le_refl _) hg2
                   have hk2 := (hb2'.cell hadb).trans hcq
                   have rx2 := rxb.drew.grown hg2 (by rintro _ ⟨rfl⟩; simp [Value.ownBlock]))
                | (refine step_put (by rfl) (.tmp 30) (.tmp 33) (by rfl) Try.underlying22 elem_int' (v := .slice (some ⟨wq.heap.size + 1, 0, none⟩) 0 0) (A := some ao) (m := j) (c := c) (xs := []) (news := ints (out.take j)) (B := wq.heap.size) (by rfl) (mkc.drew) (by rfl) (by simp; omega) (rt.below hbc.drew) (one_ints _) (by omega) (by omega) (by simp; omega) ?_
                   intro v2 w2 hown2 hg2 ho2
                   have hb2' := below_grown hbc.drew (by simp; omega) mkc.drew (Nat.le_refl _) hg2
                   have hk2 := (hb2'.cell hadb).trans hcq
                   have rx2 := rxc.drew.grown hg2 (by rintro _ ⟨rfl⟩; simp [Value.ownBlock]))
                | (refine step_put (by rfl) (.tmp 34) (.tmp 39) (by rfl) Try.underlying22 elem_int' (v := v2) (A := some ⟨w2.heap.size, 0, none⟩) (m := 1) (c := 1) (news := [.int .i64 x]) (B := wq.heap.size) (by rfl) (hown2.alloc _) (by rfl) (by rfl) (row_new w2 _ _ rfl) (by simp [Value.oneCell']) (by omega) (by omega) (by have := hb2'.size; simp; omega) ?_
                   intro v3 w3 hown3 hg3 ho3
                   have hb3' := below_grown (hb2'.alloc hb2'.size _) (by have := hb2'.size; simp; omega) (hown2.alloc _) (Nat.le_refl _) hg3
                   have hk3 := (hb3'.cell hadb).trans hcq)
                | (refine step_put (by rfl) (.tmp 34) (.tmp 39) (by rfl) Try.underlying22 elem_int' (v := v2) (m := 1) (c := 1) (news := [.int .i64 x]) (B := wq.heap.size) (by rfl) hown2 (by rfl) (by rfl) rx2 (by simp [Value.oneCell']) (by omega) (by omega) hb2'.size ?_
                   intro v3 w3 hown3 hg3 ho3
                   have hb3' := below_grown hb2' hb2'.size hown2 (Nat.le_refl _) hg3
                   have hk3 := (hb3'.cell hadb).trans hcq)
                | (refine step_put (by rfl) (.tmp 40) (.tmp 43) (by rfl) Try.underlying22 elem_int' (v := v3) (A := if c = j then some ao else some (ao.add j)) (m := out.length - j) (c := c - j) (news := ints (out.drop j)) (B := wq.heap.size) (by rfl) hown3 (by rfl) (by simp) (rd.below hb3') (one_ints _) (by omega) (by omega) hb3'.size ?_
                   intro v4 w4 hown4 hg4 ho4
                   have hb4' := below_grown hb3' hb3'.size hown3 (Nat.le_refl _) hg4
                   have hk4 := (hb4'.cell hadb).trans hcq))
            all_goals
              go_wp2_with fail
              refine ⟨⟨k + 1, insP x out, hlt, by go_num, by rw [ins_len, HL.out], ?_, ?_, below_then hb z (below_then hb3 hb3.size hb4'), ?_⟩, by simp [intOf]; omega⟩
              · rw [Hid, asc_snoc l k hlt, ← hacc.out, X.out]
              · have e := hnext.out
                rw [← e]
                have hl : 0 + j + 1 + (out.length - j) = (out.take j ++ x :: out.drop j).length := by simp; omega
                rw [← hl]
                exact own_mono (by simpa [ints] using hown4) (by have := hb3.size; have := hb2.size; omega)
              · obtain ⟨g, c4, e4, _⟩ := own_one hown4 (by omega)
                rw [e4, ins_len]
                exact ⟨_, _, by rw [show 0 + j + 1 + (out.length - j) = out.length + 1 from by omega]⟩
        · have hnext := hide (ins_at hbef.out hj (.inl (by omega)))
          have hdj : decide ((j : Int) < (out.length : Int)) = false := by simp; omega
          go_wp2_with fail
          go_quiet (fail)
          all_goals go_wp2_with fail
          have hb3 := below_drewN hb2 nq
          have hcq : (wi.drewN nq).cell? (ad.add k) = some (.int .i64 x) := hca2
          generalize wi.drewN nq = wq at *
          have b1 : (0 : Int) ≤ (j : Int) := by omega
          have b2 : (j : Int) ≤ (out.length : Int) := by omega
          have b3 : (out.length : Int) ≤ (c : Int) := by omega
          have b4 : (j : Int) ≤ (c : Int) := by omega
          have hadb : (ad.add k).block < wq.heap.size := World.block_lt_of_cell? _ _ hcq
          have mk0 := World.ownsRow_made (base := wq.heap.size) (e := 3) (size := 1) wq #[] 0 (Nat.le_refl _) (by simp [maxLen]) rfl
          have mkc := World.ownsRow_made (base := wq.heap.size) (e := 3) (size := 1) (wq.alloc (.cells #[.int .i64 x] 3)) #[] 0 (by simp) (by simp [maxLen]) rfl
          rw [World.size_alloc] at mkc
          have rq : Row wq (some ao) (ints out) := hro.below hb3
          have rt := rq.upto j
          have rd := rq.cut (j := j) (c := c) (by omega) (by omega)
          have hba : Below wq.heap.size wq (wq.alloc (.cells #[] 3)) := (Below.refl _ _).alloc (Nat.le_refl _) _
          have hbb : Below wq.heap.size wq ((wq.alloc (.cells #[] 3)).alloc (.cells #[.int .i64 x] 3)) := hba.alloc (by simp) _
          have hbc : Below wq.heap.size wq ((wq.alloc (.cells #[.int .i64 x] 3)).alloc (.cells #[] 3)) := ((Below.refl _ _).alloc (Nat.le_refl _) _).alloc (by simp) _
          have rxb : Row ((wq.alloc (.cells #[] 3)).alloc (.cells #[.int .i64 x] 3)) (some ⟨wq.heap.size + 1, 0, none⟩) [.int .i64 x] := row_new _ _ _ (by simp)
          have rxc : Row ((wq.alloc (.cells #[.int .i64 x] 3)).alloc (.cells #[] 3)) (some ⟨wq.heap.size, 0, none⟩) [.int .i64 x] := (row_new wq #[.int .i64 x] 3 rfl).alloc _
          go_region_held3 (fun w' => w'.cell? (ad.add k) = some (.int .i64 x)) (go_keep)
            (first
              | (refine step_put (by rfl) (.tmp 30) (.tmp 33) (by rfl) Try.underlying22 elem_int' (v := .slice (some ⟨wq.heap.size, 0, none⟩) 0 0) (A := some ao) (m := j) (c := c) (xs := []) (news := ints (out.take j)) (B := wq.heap.size) (by rfl) (mk0.drew) (by rfl) (by simp; omega) (rt.below hba.drew) (one_ints _) (by omega) (by omega) (by simp) ?_
                 intro v2 w2 hown2 hg2 ho2
                 have hb2' := below_grown hba.drew (by simp) mk0.drew (Nat.le_refl _) hg2
                 have hk2 := (hb2'.cell hadb).trans hcq)
              | (refine step_put (by rfl) (.tmp 30) (.tmp 33) (by rfl) Try.underlying22 elem_int' (v := .slice (some ⟨wq.heap.size, 0, none⟩) 0 0) (A := some ao) (m := j) (c := c) (xs := []) (news := ints (out.take j)) (B := wq.heap.size) (by rfl) ((mk0.alloc (.cells #[.int .i64 x] 3)).drew) (by rfl) (by simp; omega) (rt.below hbb.drew) (one_ints _) (by omega) (by omega) (by simp; omega) ?_
                 intro v2 w2 hown2 hg2 ho2
                 have hb2' := below_grown hbb.drew (by simp; omega) (mk0.alloc (.cells #[.int .i64 x] 3)).drew (Nat.le_refl _) hg2
                 have hk2 := (hb2'.cell hadb).trans hcq
                 have rx2 := rxb.drew.grown hg2 (by rintro _ ⟨rfl⟩; simp [Value.ownBlock]))
              | (refine step_put (by rfl) (.tmp 30) (.tmp 33) (by rfl) Try.underlying22 elem_int' (v := .slice (some ⟨wq.heap.size + 1, 0, none⟩) 0 0) (A := some ao) (m := j) (c := c) (xs := []) (news := ints (out.take j)) (B := wq.heap.size) (by rfl) (mkc.drew) (by rfl) (by simp; omega) (rt.below hbc.drew) (one_ints _) (by omega) (by omega) (by simp; omega) ?_
                 intro v2 w2 hown2 hg2 ho2
                 have hb2' := below_grown hbc.drew (by simp; omega) mkc.drew (Nat.le_refl _) hg2
                 have hk2 := (hb2'.cell hadb).trans hcq
                 have rx2 := rxc.drew.grown hg2 (by rintro _ ⟨rfl⟩; simp [Value.ownBlock]))
              | (refine step_put (by rfl) (.tmp 34) (.tmp 39) (by rfl) Try.underlying22 elem_int' (v := v2) (A := some ⟨w2.heap.size, 0, none⟩) (m := 1) (c := 1) (news := [.int .i64 x]) (B := wq.heap.size) (by rfl) (hown2.alloc _) (by rfl) (by rfl) (row_new w2 _ _ rfl) (by simp [Value.oneCell']) (by omega) (by omega) (by have := hb2'.size; simp; omega) ?_
                 intro v3 w3 hown3 hg3 ho3
                 have hb3' := below_grown (hb2'.alloc hb2'.size _) (by have := hb2'.size; simp; omega) (hown2.alloc _) (Nat.le_refl _) hg3
                 have hk3 := (hb3'.cell hadb).trans hcq)
              | (refine step_put (by rfl) (.tmp 34) (.tmp 39) (by rfl) Try.underlying22 elem_int' (v := v2) (m := 1) (c := 1) (news := [.int .i64 x]) (B := wq.heap.size) (by rfl) hown2 (by rfl) (by rfl) rx2 (by simp [Value.oneCell']) (by omega) (by omega) hb2'.size ?_
                 intro v3 w3 hown3 hg3 ho3
                 have hb3' := below_grown hb2' hb2'.size hown2 (Nat.le_refl _) hg3
                 have hk3 := (hb3'.cell hadb).trans hcq)
              | (refine step_put (by rfl) (.tmp 40) (.tmp 43) (by rfl) Try.underlying22 elem_int' (v := v3) (A := if c = j then some ao else some (ao.add j)) (m := out.length - j) (c := c - j) (news := ints (out.drop j)) (B := wq.heap.size) (by rfl) hown3 (by rfl) (by simp) (rd.below hb3') (one_ints _) (by omega) (by omega) hb3'.size ?_
                 intro v4 w4 hown4 hg4 ho4
                 have hb4' := below_grown hb3' hb3'.size hown3 (Nat.le_refl _) hg4
                 have hk4 := (hb4'.cell hadb).trans hcq))
          all_goals
            go_wp2_with fail
            refine ⟨⟨k + 1, insP x out, hlt, by go_num, by rw [ins_len, HL.out], ?_, ?_, below_then hb z (below_then hb3 hb3.size hb4'), ?_⟩, by simp [intOf]; omega⟩
            · rw [Hid, asc_snoc l k hlt, ← hacc.out, X.out]
            · have e := hnext.out
              rw [← e]
              have hl : 0 + j + 1 + (out.length - j) = (out.take j ++ x :: out.drop j).length := by simp; omega
              rw [← hl]
              exact own_mono (by simpa [ints] using hown4) (by have := hb3.size; have := hb2.size; omega)
            · obtain ⟨g, c4, e4, _⟩ := own_one hown4 (by omega)
              rw [e4, ins_len]
              exact ⟨_, _, by rw [show 0 + j + 1 + (out.length - j) = out.length + 1 from by omega]⟩
    · have hk2 : Hid (k = l.length) := hide (by omega)
      go_wp2_with fail
      go_ret
      have e : out = ascP l := by rw [hacc.out, hk2.out, List.take_of_length_le (Nat.le_refl _)]
      rw [← e]
      exact ⟨_, rfl, hown, hb⟩
end Go.Proofs.Ytakphmcelhbaiab
