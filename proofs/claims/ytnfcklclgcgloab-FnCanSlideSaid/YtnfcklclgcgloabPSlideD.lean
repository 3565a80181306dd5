
/-
  The program's slides: exchanges, swapsTo, slidesOf, OddSwaps.
-/
import Derived.Test.YtnfcklclgcgloabPSlideC
namespace Go.Proofs.Ytnfcklclgcgloab
open Go.RowKit
set_option linter.unusedVariables false

/-- The exchanges that make a slide of another one: behind the first k cells, how many, and the slide. -/
def swTo (s o : List Int) : Nat → Nat × List Int
  | 0 => (0, s)
  | k + 1 => if ((swTo s o k).2)[k]?.getD 0 = o[k]?.getD 0 then swTo s o k else ((swTo s o k).1 + 1, swapP (swTo s o k).2 k (placeP (swTo s o k).2 (o[k]?.getD 0)))
theorem swTo_succ (s o : List Int) (k : Nat) : swTo s o (k + 1) = if ((swTo s o k).2)[k]?.getD 0 = o[k]?.getD 0 then swTo s o k else ((swTo s o k).1 + 1, swapP (swTo s o k).2 k (placeP (swTo s o k).2 (o[k]?.getD 0))) := rfl
structure SwOk (s o : List Int) (k : Nat) : Prop where
  ord : Ordr (swTo s o k).2
  len : (swTo s o k).2.length = s.length
  num : (swTo s o k).1 ≤ k
  par : ((swTo s o k).1 + oddP s + oddP (swTo s o k).2) % 2 = 0
  same : ∀ i, i < k → ((swTo s o k).2)[i]?.getD 0 = o[i]?.getD 0
theorem sw_place {t o : List Int} {k : Nat} (ht : Ordr t) (ho : Ordr o) (hl : t.length = o.length) (hk : k < o.length) (hs : ∀ i, i < k → t[i]?.getD 0 = o[i]?.getD 0) (hne : t[k]?.getD 0 ≠ o[k]?.getD 0) :
    o[k]?.getD 0 ∈ t ∧ k < placeP t (o[k]?.getD 0) ∧ placeP t (o[k]?.getD 0) < t.length := by
  obtain ⟨⟨h0, h1⟩, h2⟩ := ho.2 k hk
  have hm : o[k]?.getD 0 ∈ t := ord_has ht h0 (by omega)
  have hpl := place_lt hm
  have hpa := place_at hm
  refine ⟨hm, ?_, hpl⟩
  apply Nat.lt_of_le_of_ne
  · apply Nat.le_of_not_lt
    intro h
    rw [hs _ h] at hpa
    apply h2
    rw [← hpa, List.getElem?_eq_getElem (by omega), Option.getD_some]
    exact List.mem_take_iff_getElem.2 ⟨_, by omega, rfl⟩
  · intro e
    rw [← e] at hpa
    exact hne hpa
theorem sw_ok {s o : List Int} (hs : Ordr s) (ho : Ordr o) (hl : s.length = o.length) : ∀ k, k ≤ o.length → SwOk s o k
  | 0, _ => ⟨hs, rfl, Nat.le_refl _, by unfold swTo; simp only; omega, fun i hi => absurd hi (by omega)⟩
  | k + 1, hk => by
    have ih := sw_ok hs ho hl k (by omega)
    by_cases he : ((swTo s o k).2)[k]?.getD 0 = o[k]?.getD 0
    · have e0 : swTo s o (k + 1) = swTo s o k := by rw [swTo_succ, if_pos he]
      refine ⟨by rw [e0]; exact ih.ord, by rw [e0]; exact ih.len, by rw [e0]; have := ih.num; omega, by rw [e0]; exact ih.par, fun i hi => ?_⟩
      rw [e0]
      by_cases e : i = k
      · subst e; exact he
      · exact ih.same i (by omega)
    · have e0 : swTo s o (k + 1) = ((swTo s o k).1 + 1, swapP (swTo s o k).2 k (placeP (swTo s o k).2 (o[k]?.getD 0))) := by rw [swTo_succ, if_neg he]
      obtain ⟨p1, p2, p3⟩ := sw_place ih.ord ho (by rw [ih.len, hl]) (by omega) ih.same he
      have hpa := place_at p1
      have hod := ord_odd ih.ord p2 p3
      have hkl : k < (swTo s o k).2.length := by rw [ih.len]; omega
      refine ⟨by rw [e0]; exact ord_swap ih.ord hkl p3, by rw [e0]; simp only; rw [swapP_len]; exact ih.len, by rw [e0]; have := ih.num; simp only; omega, by rw [e0]; have := ih.par; simp only; omega, fun i hi => ?_⟩
      rw [e0]
      simp only
      rw [swap_at _ _ _ hkl p3]
      by_cases e : i = k
      · subst e
        rw [if_neg (by omega), if_pos rfl, hpa]
      · by_cases e2 : i = placeP (swTo s o k).2 (o[k]?.getD 0)
        · omega
        · rw [if_neg e2, if_neg e]
          exact ih.same i (by omega)
/-- Behind the last cell nothing is exchanged. -/
theorem sw_more {s o : List Int} (hs : Ordr s) (ho : Ordr o) (hl : s.length = o.length) : ∀ k, o.length ≤ k → swTo s o k = ((swTo s o o.length).1, o) ∧ (swTo s o o.length).1 % 2 = (oddP s + oddP o) % 2 := by
  have h0 := sw_ok hs ho hl o.length (Nat.le_refl _)
  have he : (swTo s o o.length).2 = o := by
    apply List.ext_getElem (by rw [h0.len, hl])
    intro i h1 h2
    have := h0.same i (by rw [h0.len, hl] at h1; exact h1)
    rwa [List.getElem?_eq_getElem h1, List.getElem?_eq_getElem h2] at this
  have hp := h0.par
  rw [he] at hp
  intro k hk
  refine ⟨?_, by omega⟩
  induction k with
  | zero => rw [show o.length = 0 by omega] at he ⊢; exact Prod.ext rfl he
  | succ k ih =>
    by_cases e : o.length = k + 1
    · rw [← e]; exact Prod.ext rfl he
    · have := ih (by omega)
      rw [swTo_succ, this]
      simp
theorem sw_six {s o : List Int} (hs : Ordr s) (ho : Ordr o) (hl : s.length = o.length) : (swTo s o 6).1 % 2 = (oddP s + oddP o) % 2 ∧ (swTo s o 6).1 ≤ 6 := by
  have h6 := ho.1
  obtain ⟨h1, h2⟩ := sw_more hs ho hl 6 h6
  have h3 := (sw_ok hs ho hl o.length (Nat.le_refl _)).num
  rw [h1]
  exact ⟨h2, by simp only; omega⟩
/-- What one round asks and leaves. -/
theorem sw_round {s o : List Int} (hs : Ordr s) (ho : Ordr o) (hl : s.length = o.length) {k : Nat} (hk : k < 6) (hne : ((swTo s o k).2)[k]?.getD 0 ≠ o[k]?.getD 0) :
    k < (swTo s o k).2.length ∧ o[k]?.getD 0 ∈ (swTo s o k).2 ∧ placeP (swTo s o k).2 (o[k]?.getD 0) < (swTo s o k).2.length ∧ (swTo s o k).2.length ≤ 6 ∧ swTo s o (k + 1) = ((swTo s o k).1 + 1, swapP (swTo s o k).2 k (placeP (swTo s o k).2 (o[k]?.getD 0))) := by
  have hk2 : k < o.length := by
    apply Nat.lt_of_not_le
    intro h
    rw [(sw_more hs ho hl k h).1] at hne
    exact hne rfl
  have ih := sw_ok hs ho hl k (by omega)
  obtain ⟨p1, p2, p3⟩ := sw_place ih.ord ho (by rw [ih.len, hl]) hk2 ih.same hne
  refine ⟨by rw [ih.len]; omega, p1, p3, ih.ord.1, ?_⟩
  rw [swTo, if_neg hne]
theorem sw_skip {s o : List Int} {k : Nat} (h : ((swTo s o k).2)[k]?.getD 0 = o[k]?.getD 0) : swTo s o (k + 1) = swTo s o k := by
  rw [swTo, if_pos h]
theorem place_first {l : List Int} {x : Int} {j : Nat} (hj : j < placeP l x) (hx : x ∈ l) : atF l j ≠ x := fun he => by
  have h1 := place_lt hx
  have := List.not_of_lt_findIdx (p := (· == x)) (xs := l) (i := j) (show j < List.findIdx _ l from hj)
  unfold atF at he
  rw [List.getElem?_eq_getElem (by omega), Option.getD_some] at he
  simp [he] at this

theorem index6F (f : Nat → Int) {k : Nat} (h : k < 6) : ∀ w : World, (Instr.index 40 (.agg #[.int .i64 (f 0), .int .i64 (f 1), .int .i64 (f 2), .int .i64 (f 3), .int .i64 (f 4), .int .i64 (f 5)]) (.int .i64 (k : Int))).run Try.prog w = .ok (.int .i64 (f k)) w := fun w => by
  obtain rfl | rfl | rfl | rfl | rfl | rfl := six_of h
  all_goals kernel_rfl
set_option maxHeartbeats 4000000 in
set_option maxRecDepth 100000 in
theorem swapsTo_c (s o : List Int) (w : World) (hs : Ordr s) (ho : Ordr o) (hl : s.length = o.length) : Calls Try.prog 25 #[slideV s, slideV o] w (Plain (.int .i64 (((swTo s o 6).1 : Nat) : Int)) w) := by
  have HSK := hide (fun k h => sw_skip (s := s) (o := o) (k := k) h)
  have HRD := hide (fun k (hk : k < 6) h => sw_round hs ho hl hk h)
  have HNM := hide (fun k (hk : k ≤ 6) => show (swTo s o k).1 ≤ 6 by
    by_cases h : k ≤ o.length
    · have := (sw_ok hs ho hl k h).num; omega
    · rw [(sw_more hs ho hl k (by omega)).1]
      have := (sw_ok hs ho hl o.length (Nat.le_refl _)).num
      have := ho.1
      simp only; omega)
  have HZ := hide (show swTo s o 0 = (0, s) from rfl)
  have bs : Box ((w.alloc (.cells (sixF (atF s)) 40)).alloc (.cells (sixF (atF o)) 40)) w.heap.size 40 (sixF (atF s)) := (Box.new w 40 (sixF (atF s))).alloc (.cells (sixF (atF o)) 40)
  have bo := Box.new (w.alloc (.cells (sixF (atF s)) 40)) 40 (sixF (atF o))
  simp only [World.size_alloc] at bo
  have b0 : Below w.heap.size w ((w.alloc (.cells (sixF (atF s)) 40)).alloc (.cells (sixF (atF o)) 40)) := ((Below.refl _ _).alloc (Nat.le_refl _) _).alloc (by simp) _
  obtain ⟨s1, s2, s3, s4, s5, s6⟩ := box6 bo
  clear hs ho hl
  go_enter Try.func25, Try.ntmps25
  go_wp2_with fail
  clear s1 s2 s3 s4 s5 s6
  generalize ((w.alloc (.cells (sixF (atF s)) 40)).alloc (.cells (sixF (atF o)) 40)) = wA at *
  have HI := hide (fun k (hk : k < 6) => index6F (atF o) hk)
  go_loopw [5, 10] (fun a i wr => ∃ k : Nat, k ≤ 6 ∧ i = .int .i64 (k : Int) ∧ a = .int .i64 (((swTo s o k).1 : Nat) : Int) ∧ Below w.heap.size w wr ∧ Box wr w.heap.size 40 (sixF (atF (swTo s o k).2))) (fun _ i _ => 6 - (intOf i).toNat)
  case atStart => exact ⟨0, Nat.zero_le _, rfl, rfl, b0, bs⟩
  case round =>
    obtain ⟨k, hk, rfl, rfl, hb, bx⟩ := hrel
    obtain ⟨wo, rfl⟩ : ∃ wo : World, wo = wr := ⟨_, rfl⟩
    have hnm := HNM.out k hk
    by_cases hlt : k < 6
    · have hix := HI.out k hlt
      have hSK := hide (HSK.out k)
      have hRD := hide (HRD.out k hlt)
      obtain ⟨c1, c2, _⟩ := box6_set bx hlt 0
      have hat : atF (swTo s o k).2 k = ((swTo s o k).2)[k]?.getD 0 := rfl
      have hao : atF o k = o[k]?.getD 0 := rfl
      have k0 : (0 : Int) ≤ (k : Int) := by omega
      have k6 : (k : Int) < 6 := by omega
      by_cases he : ((swTo s o k).2)[k]?.getD 0 = o[k]?.getD 0
      · have hne : (atF (swTo s o k).2 k != atF o k) = false := by rw [hat, hao, he]; simp
        have HE := hide (hSK.out he)
        clear he hat hao
        go_wp2_with fail
        exact ⟨⟨k + 1, hlt, by go_num, by rw [HE.out], hb, by rw [HE.out]; exact bx⟩, by simp [intOf]; omega⟩
      · have hne : (atF (swTo s o k).2 k != atF o k) = true := by rw [hat, hao]; simpa using he
        obtain ⟨r1, r2, r3, r4, r5⟩ := hRD.out he
        have g6 : placeP (swTo s o k).2 (o[k]?.getD 0) < 6 := by omega
        have hxG : atF (swTo s o k).2 (placeP (swTo s o k).2 (o[k]?.getD 0)) = o[k]?.getD 0 := place_at r2
        have hfst := fun j (hj : j < placeP (swTo s o k).2 (o[k]?.getD 0)) => place_first hj r2
        have HS := hide (show sixF (fun i => if i = placeP (swTo s o k).2 (o[k]?.getD 0) then atF (swTo s o k).2 k else if i = k then atF (swTo s o k).2 (placeP (swTo s o k).2 (o[k]?.getD 0)) else atF (swTo s o k).2 i) = sixF (atF (swapP (swTo s o k).2 k (placeP (swTo s o k).2 (o[k]?.getD 0)))) from sixF_congr fun i _ => (swap_at _ _ _ r1 r3 i).symm)
        have HIX := hide (fun (w5 : World) (h5 : Box w5 w.heap.size 40 (sixF (atF (swTo s o k).2))) => index6_c w.heap.size 40 (atF (swTo s o k).2) (o[k]?.getD 0) _ w5 h5 g6 hxG hfst)
        have HE := hide r5
        rw [hao] at hne hix
        clear r1 r2 r3 r4 r5 he hat hao hxG hfst hSK hRD HSK HRD HNM HZ HI
        generalize hG : placeP (swTo s o k).2 (o[k]?.getD 0) = G at *
        have hG' := hide hG
        clear hG
        generalize o[k]?.getD 0 = x at *
        generalize (swTo s o k).1 = N at *
        generalize swapP (swTo s o k).2 k G = M1 at *
        generalize (swTo s o k).2 = M0 at *
        have en : IntKind.i64.wrap ((N : Int) + 1) = (N : Int) + 1 := IntWalk.i64_in _ (by omega)
        have g0 : (0 : Int) ≤ (G : Int) := by omega
        have g6i : (G : Int) < 6 := by omega
        go_wp2_with fail
        refine (HIX.out _ bx).mono ?_
        rintro e w' ⟨rfl, rfl⟩
        obtain ⟨u1, u2, u3⟩ := box6_set bx hlt (atF M0 G)
        obtain ⟨v1, v2, v3⟩ := box6_set u3 g6 (atF M0 k)
        have d1 := (bx.cell G).trans (sixF_at (atF M0) g6)
        rw [HS.out] at v3
        have B3 : Box ((wo.setCell ⟨w.heap.size, k, none⟩ (.int .i64 (atF M0 G))).setCell ⟨w.heap.size, G, none⟩ (.int .i64 (atF M0 k))).drew w.heap.size 40 (sixF (atF M1)) := v3
        have D3 : Below w.heap.size w ((wo.setCell ⟨w.heap.size, k, none⟩ (.int .i64 (atF M0 G))).setCell ⟨w.heap.size, G, none⟩ (.int .i64 (atF M0 k))).drew := ((hb.setCell (p := ⟨w.heap.size, k, none⟩) (Nat.le_refl _) _).setCell (p := ⟨w.heap.size, G, none⟩) (Nat.le_refl _) _).drew
        have B3' := hide B3
        have D3' := hide D3
        clear B3 D3 v3 u3 bx hb HS
        go_wp2_with fail
        go_region
        generalize ((wo.setCell ⟨w.heap.size, k, none⟩ (.int .i64 (atF M0 G))).setCell ⟨w.heap.size, G, none⟩ (.int .i64 (atF M0 k))).drew = w3 at *
        go_wp2_with fail
        exact ⟨⟨k + 1, hlt, by go_num, congrArg (Value.int .i64) (by rw [HE.out]; rfl), D3'.out, by rw [HE.out]; exact B3'.out⟩, by simp [intOf]; omega⟩
    · obtain rfl : k = 6 := by omega
      go_wp2_with fail
      go_ret
      exact ⟨rfl, hb⟩
end Go.Proofs.Ytnfcklclgcgloab
