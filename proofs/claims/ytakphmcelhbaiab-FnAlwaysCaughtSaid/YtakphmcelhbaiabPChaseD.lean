
/-
  The program's chases: catches.
-/
import Derived.Test.YtakphmcelhbaiabPChaseC
import Derived.Test.YtakphmcelhbaiabChaseC
namespace Go.Proofs.Ytakphmcelhbaiab
open Go.RowKit Go.Maps
set_option linter.unusedVariables false
set_option maxRecDepth 100000

theorem Row.place {w : World} {g : Nat} {S : List (Nat × Nat)} {k : Nat} (h : Row w (some ⟨g, 0, none⟩) (flatP S)) (hk : k < S.length) :
    w.cell? ⟨g, k * 2, none⟩ = some (.int .i64 ((S[k]?.getD (0, 0)).1 : Int)) ∧ w.cell? ⟨g, k * 2 + 1, none⟩ = some (.int .i64 ((S[k]?.getD (0, 0)).2 : Int)) := by
  obtain ⟨e1, e2⟩ := flatP_at S k hk
  obtain ⟨l1, f1⟩ := List.getElem?_eq_some_iff.1 e1
  obtain ⟨l2, f2⟩ := List.getElem?_eq_some_iff.1 e2
  have add : ∀ j, (⟨g, 0, none⟩ : Addr).add j = ⟨g, j, none⟩ := fun j => by unfold Addr.add; split <;> simp_all
  obtain ⟨_, ⟨rfl⟩, hc⟩ := h _ l1
  obtain ⟨_, ⟨rfl⟩, hc2⟩ := h _ l2
  rw [add] at hc hc2
  exact ⟨by rw [hc, f1], by rw [hc2, f2]⟩
/-- What counts as a catch in round r. -/
def cvR (g r : Nat) : Value := if r = 0 then .func (.func 57) #[] #[] else .func (.func 60) #[] #[.pointer (some ⟨g, 0, none⟩), .pointer (some ⟨g + 3, 0, none⟩)]
def newR (C : List (List Nat)) (r h o : Nat) : Bool := decide (cAt C h o = r + 1)
/-- What is known within round r, behind some of the places that it has found. -/
def FJ (C : List (List Nat)) (r : Nat) (l : List (Nat × Nat)) (a b : Nat) : Option Nat := if (a, b) ∈ l then some r else FV C r a b
theorem fj_none (C : List (List Nat)) (r a b : Nat) : FJ C r [] a b = FV C r a b := if_neg (by simp)
theorem fj_step (C : List (List Nat)) (r : Nat) (S : List (Nat × Nat)) {j : Nat} (hj : j < S.length) (a b : Nat) :
    (if a = (S[j]?.getD (0, 0)).1 ∧ b = (S[j]?.getD (0, 0)).2 then some r else FJ C r (S.take j) a b) = FJ C r (S.take (j + 1)) a b := by
  unfold FJ
  rw [List.take_succ_eq_append_getElem hj, List.getElem?_eq_getElem hj, Option.getD_some]
  by_cases e : (a, b) = S[j]
  · rw [if_pos (by rw [← e]; exact ⟨rfl, rfl⟩), if_pos (by rw [← e]; simp)]
  · have e' : ¬ (a = S[j].1 ∧ b = S[j].2) := fun h => e (by obtain ⟨h1, h2⟩ := h; rw [h1, h2])
    rw [if_neg e']
    by_cases m : (a, b) ∈ S.take j
    · rw [if_pos m, if_pos (List.mem_append_left _ m)]
    · rw [if_neg m, if_neg (fun h => by
        rcases List.mem_append.1 h with h | h
        · exact m h
        · exact e (List.mem_singleton.1 h))]
theorem fj_all (C : List (List Nat)) (n r : Nat) {a b : Nat} (ha : a < n) (hb : b < n) : FJ C r (placesTo (newR C r) n n) a b = FV C (r + 1) a b := by
  unfold FJ FV
  by_cases e : cAt C a b = r + 1
  · rw [if_pos (placesTo_mem.2 ⟨ha, hb, decide_eq_true e⟩), if_pos (by omega)]
    rw [e]
    rfl
  · rw [if_neg (fun h => e (of_decide_eq_true (placesTo_mem.1 h).2.2))]
    by_cases e2 : 1 ≤ cAt C a b ∧ cAt C a b ≤ r
    · rw [if_pos e2, if_pos (by omega)]
    · rw [if_neg e2, if_neg (by omega)]
theorem none_left {L : List Nat} {C : List (List Nat)} (hC : CatOk L C) (h1 : 1 ≤ L.length) {r : Nat} (hr : r ≤ topN C) (h : (placesTo (newR C r) L.length L.length).length = 0) : r = topN C := by
  have hn : placesTo (newR C r) L.length L.length = [] := List.length_eq_zero_iff.1 h
  have key : ∀ a b, a < L.length → b < L.length → cAt C a b ≠ r + 1 := fun a b ha hb e => by
    have : (a, b) ∈ placesTo (newR C r) L.length L.length := placesTo_mem.2 ⟨ha, hb, decide_eq_true e⟩
    rw [hn] at this
    cases this
  by_cases e : r = topN C
  · exact e
  · exfalso
    by_cases r0 : r = 0
    · subst r0
      exact key 0 0 (by omega) (by omega) (hC.diag 0 (by omega))
    · obtain ⟨a, b, ha, hb, hq⟩ := hC.each (r + 1) (by omega) (by omega)
      exact key a b ha hb hq
theorem some_left {L : List Nat} {C : List (List Nat)} (hC : CatOk L C) {r : Nat} (h : (placesTo (newR C r) L.length L.length).length ≠ 0) : r < topN C := by
  cases hl : placesTo (newR C r) L.length L.length with
  | nil => rw [hl] at h; exact absurd rfl h
  | cons q l =>
    have hm : q ∈ placesTo (newR C r) L.length L.length := by rw [hl]; simp
    obtain ⟨h1, h2, h3⟩ := placesTo_mem.1 hm
    have := hC.top q.1 q.2 h1 h2
    have := of_decide_eq_true h3
    omega
theorem places_small {L : List Nat} (h9 : L.length ≤ 9) (P : Nat → Nat → Bool) : (placesTo P L.length L.length).length ≤ 81 := Nat.le_trans (placesTo_len P _ _) (Nat.mul_le_mul h9 h9)
theorem place_at {P : Nat → Nat → Bool} {n : Nat} {j : Nat} (hj : j < (placesTo P n n).length) : ((placesTo P n n)[j]?.getD (0, 0)).1 < n ∧ ((placesTo P n n)[j]?.getD (0, 0)).2 < n := by
  rw [List.getElem?_eq_getElem hj, Option.getD_some]
  obtain ⟨h1, h2, _⟩ := placesTo_mem.1 (List.getElem_mem hj)
  exact ⟨h1, h2⟩
def CaughtIs (n : Nat) (C : List (List Nat)) (W : World) (e : Ending) (w' : World) : Prop := ∃ bm nm D, e = .returned (.map (some bm)) ∧ OwnsP w' bm nm D ∧ ViewP D n (FV C (topN C)) ∧ Below W.heap.size W w'
theorem round_c {W wo : World} {A : Option Addr} {c : Nat} {L : List Nat} {C : List (List Nat)} {r nm : Nat} {D : DataW Unit} (hC : CatOk L C) (hL : Sets9 L) (hr : r ≤ topN C)
    (st : StC W wo A L.length c (cvR W.heap.size r) nm D) (hv : ViewP D L.length (FV C r)) (hrow : Row wo A (ints (natI (nearS L)))) :
    Calls Try.prog 58 #[.slice A L.length c, .func (.func 59) #[] #[.pointer (some ⟨W.heap.size + 3, 0, none⟩), .pointer (some ⟨W.heap.size + 4, 0, none⟩)]] wo (Owns 85 2 (placesTo (newR C r) L.length L.length).length (flatP (placesTo (newR C r) L.length L.length)) wo) := by
  have h9 := hL.len
  refine placesThat_c A c L.length (newR C r) (W.heap.size + 3) (W.heap.size + 4) wo h9 (fun h o hh ho w1 b1 => ?_)
  have hk : ∀ w2, Below wo.heap.size wo w2 → ∀ a b, a < L.length → b < L.length → Calls Try.prog 56 #[placeV a b, .pointer (some ⟨W.heap.size + 2, 0, none⟩)] w2 (Plain (.bool (KS C r a b)) w2) := fun w2 b2 a b ha hb => by
    have s2 := st.then b2
    have := known_c (W.heap.size + 2) (W.heap.size + 1) nm D L.length (FV C r) w2 h9 (s2.mv.cell 0) s2.mv.in_ s2.map hv a b ha hb
    rwa [fv_some] at this
  have s1 := st.then b1
  by_cases r0 : r = 0
  · subst r0
    have := c2_met (W.heap.size + 2) (W.heap.size + 3) (W.heap.size + 4) (KS C 0 h o) h o w1 (s1.kn.cell 0) s1.kn.in_ (s1.cg.cell 0) s1.cg.in_ (fun w2 b2 => hk w2 (below_then b1 b1.size b2) h o hh ho)
    rwa [found_met hC hh ho] at this
  · have hcv : cvR W.heap.size r = .func (.func 60) #[] #[.pointer (some ⟨W.heap.size, 0, none⟩), .pointer (some ⟨W.heap.size + 3, 0, none⟩)] := if_neg r0
    rw [hcv] at s1
    have := c2_turn (W.heap.size + 2) (W.heap.size + 3) (W.heap.size + 4) W.heap.size (turnTo L (KS C r) h o L.length) (KS C r h o) h o w1 (s1.kn.cell 0) s1.kn.in_ (s1.cg.cell 0) s1.cg.in_ (fun w2 b2 => hk w2 (below_then b1 b1.size b2) h o hh ho)
      (fun w2 b2 => by
        have s2 := s1.then b2
        have b12 := below_then b1 b1.size b2
        exact c3_c W.heap.size (W.heap.size + 2) (W.heap.size + 3) A c L (KS C r) h o w2 (s2.own.cell 0) s2.own.in_ (s2.kn.cell 0) s2.kn.in_ (hrow.below b12) hL hh ho (fun a b ha hb w3 b3 => hk w3 (below_then b12 b12.size b3) a b ha hb))
    rwa [found_turn hC hh ho (by omega) hr] at this

set_option maxHeartbeats 4000000 in
theorem pcatches_c (A : Option Addr) (c : Nat) (L : List Nat) (C : List (List Nat)) (W : World) (hn1 : 1 ≤ L.length) (hL : Sets9 L) (hC : CatOk L C) (hrow : Row W A (ints (natI (nearS L)))) :
    Calls Try.prog 45 #[.slice A L.length c] W (CaughtIs L.length C W) := by
  have h9 := hL.len
  have HRD := hide (fun (wo : World) (r nm : Nat) (D : DataW Unit) (hr : r ≤ topN C) (st : StC W wo A L.length c (cvR W.heap.size r) nm D) (hv : ViewP D L.length (FV C r)) => round_c hC hL hr st hv (hrow.below st.below))
  have HNL := hide (fun r (hr : r ≤ topN C) => none_left hC hn1 hr)
  have HSL := hide (fun r => some_left (r := r) hC)
  have HPS := hide (fun r => places_small h9 (newR C r))
  have HPA := hide (fun r j (hj : j < (placesTo (newR C r) L.length L.length).length) => place_at hj)
  have HFS := hide (fun r j (hj : j < (placesTo (newR C r) L.length L.length).length) => fj_step C r (placesTo (newR C r) L.length L.length) hj)
  have HFA := hide (fun r a b ha hb => fj_all C L.length r (a := a) (b := b) ha hb)
  obtain ⟨hT1, hT5⟩ := hC.low
  obtain ⟨T, hT⟩ : ∃ T, topN C = T := ⟨_, rfl⟩
  have HTT := hide hT
  rw [hT] at HRD HNL HSL hT1 hT5
  have bx0 := Box.new W 33 #[.slice A L.length c]
  have hmade := hide (World.ownsMap_made (W.alloc (.cells #[.slice A L.length c] 33)) Try.prog 85 (plainElem (H := Unit) Try.prog 3))
  have st0 : StC W (((((W.alloc (.cells #[.slice A L.length c] 33)).alloc (.map #[] 0)).alloc (.cells #[.map (some (W.heap.size + 1))] 66)).alloc (.cells #[.func (.func 56) #[] #[.pointer (some ⟨W.heap.size + 2, 0, none⟩)]] 86)).alloc (.cells #[.func (.func 57) #[] #[]] 87)) A L.length c (cvR W.heap.size 0) 0 (.map []) :=
    ⟨(((bx0.alloc _).alloc _).alloc _).alloc _, by have := ((hmade.out.alloc (.cells #[.map (some (W.heap.size + 1))] 66)).alloc (.cells #[.func (.func 56) #[] #[.pointer (some ⟨W.heap.size + 2, 0, none⟩)]] 86)).alloc (.cells #[.func (.func 57) #[] #[]] 87); simpa using this,
      by have := ((Box.new ((W.alloc (.cells #[.slice A L.length c] 33)).alloc (.map #[] 0)) 66 #[.map (some (W.heap.size + 1))]).alloc (.cells #[.func (.func 56) #[] #[.pointer (some ⟨W.heap.size + 2, 0, none⟩)]] 86)).alloc (.cells #[.func (.func 57) #[] #[]] 87); simpa using this,
      by have := (Box.new (((W.alloc (.cells #[.slice A L.length c] 33)).alloc (.map #[] 0)).alloc (.cells #[.map (some (W.heap.size + 1))] 66)) 86 #[.func (.func 56) #[] #[.pointer (some ⟨W.heap.size + 2, 0, none⟩)]]).alloc (.cells #[.func (.func 57) #[] #[]] 87); simpa using this,
      by have := Box.new ((((W.alloc (.cells #[.slice A L.length c] 33)).alloc (.map #[] 0)).alloc (.cells #[.map (some (W.heap.size + 1))] 66)).alloc (.cells #[.func (.func 56) #[] #[.pointer (some ⟨W.heap.size + 2, 0, none⟩)]] 86)) 87 #[.func (.func 57) #[] #[]]; simpa [cvR] using this,
      (((((Below.refl W.heap.size W).alloc (Nat.le_refl _) _).alloc (by simp) _).alloc (by simp; omega) _).alloc (by simp; omega) _).alloc (by simp; omega) _⟩
  have Hst0 := hide st0
  have hv0 : Hid (ViewP (.map []) L.length (FV C 0)) := hide ((ViewP.empty L.length).congr fun a b _ _ => by
    unfold FV
    rw [if_neg (by omega)])
  have hmm := @run_makeMap Try.prog
  have hsf := fun (a : Addr) (c : Array Value) (w : World) => run_store Try.prog w a (.func (.func 56) #[] c) .plain rfl
  have hsg := fun (a : Addr) (c : Array Value) (w : World) => run_store Try.prog w a (.func (.func 57) #[] c) .plain rfl
  have hsh := fun (a : Addr) (c : Array Value) (w : World) => run_store Try.prog w a (.func (.func 60) #[] c) .plain rfl
  clear st0 bx0 hmade hC hL hrow hT
  have HFN := hide (fun r => fj_none C r)
  go_enter Try.func45, Try.ntmps45
  go_wp2_with fail
  go_loopw [6] (fun rv wr => ∃ (r nm : Nat) (D : DataW Unit), r ≤ T ∧ rv = .int .i64 (r : Int) ∧ nm ≤ 81 * r ∧ StC W wr A L.length c (cvR W.heap.size r) nm D ∧ Hid (ViewP D L.length (FV C r))) (fun rv _ => T + 1 - (intOf rv).toNat)
  case atStart => exact ⟨0, 0, _, Nat.zero_le _, rfl, Nat.le_refl _, Hst0.out, hv0⟩
  case round =>
    clear Hst0 hv0
    obtain ⟨r, nm, D, hr, rfl, hnm, st, hv⟩ := hrel
    obtain ⟨wo, rfl⟩ : ∃ wo : World, wo = wr := ⟨_, rfl⟩
    have HP := hide (HRD.out wo r nm D hr st hv.out)
    have HNLr := hide (HNL.out r hr)
    have HSLr := hide (HSL.out r)
    have hps := HPS.out r
    have HPAr := hide (HPA.out r)
    have HFSr := hide (HFS.out r)
    have HFAr := hide (HFA.out r)
    have HFNr := hide (HFN.out r)
    generalize placesTo (newR C r) L.length L.length = S at *
    have c0 := st.own.cell 0
    have hzo := st.cg.in_
    have ST := hide st
    clear st
    go_wp2_with fail
    refine HP.out.mono ?_
    rintro e w1 ⟨v1, rfl, o1, b1⟩
    obtain ⟨A1, c1, rfl, _⟩ := own_row o1
    have st1 := ST.out.then b1
    clear ST c0 HP b1
    by_cases hz : S.length = 0
    · have hz' : ((S.length : Nat) : Int) = 0 := by omega
      have HEQ := hide (HNLr.out hz)
      have ST1 := hide st1
      have c2 := st1.mv.cell 0
      clear hz st1
      go_wp2_with fail
      go_ret
      exact ⟨_, _, D, rfl, ST1.out.map, by rw [HTT.out, ← HEQ.out]; exact hv.out, ST1.out.below⟩
    · have hz' : (((S.length : Nat) : Int) == 0) = false := beq_eq_false_iff_ne.2 (by omega)
      have HLT := hide (HSLr.out hz)
      have HO1 := hide o1
      have ST1 := hide st1
      obtain ⟨ga, ca, ea, _, _, _, hgo, _⟩ := own_one o1 (by omega)
      injection ea with ea _ _
      subst ea
      clear hz o1 st1
      go_wp2_with fail
      go_loopw [23] (fun jv wr => ∃ (j nm' : Nat) (D' : DataW Unit), j ≤ S.length ∧ jv = .int .i64 (j : Int) ∧ nm' ≤ 81 * r + j ∧ StC W wr A L.length c (cvR W.heap.size r) nm' D' ∧ Hid (ViewP D' L.length (FJ C r (S.take j))) ∧ wr.ownsRow wo.heap.size 85 2 (.slice (some ⟨ga, 0, none⟩) S.length c1) S.length (flatP S)) (fun jv _ => S.length - (intOf jv).toNat)
      case atStart => exact ⟨0, nm, D, Nat.zero_le _, rfl, by omega, ST1.out, hv.out.congr fun a b _ _ => (HFNr.out a b).symm, HO1.out⟩
      case round =>
        clear HO1 ST1 hv hnm
        obtain ⟨j, nm', D', hj, rfl, hnm, st, hv, ho⟩ := hrel
        obtain ⟨wi, rfl⟩ : ∃ wi : World, wi = wr := ⟨_, rfl⟩
        by_cases hjl : j < S.length
        · obtain ⟨hq1, hq2⟩ := (own_reads ho).place hjl
          obtain ⟨hp1, hp2⟩ := HPAr.out j hjl
          have hfs := hide (HFSr.out j hjl)
          have hpv := fun v => hv.out.put (by omega) hp1 hp2 v
          obtain ⟨q, hq⟩ : ∃ q, S[j]?.getD (0, 0) = q := ⟨_, rfl⟩
          rw [hq] at hq1 hq2 hp1 hp2 hfs
          simp only [hq] at hpv
          obtain ⟨x, y⟩ := q
          simp only at hq1 hq2 hp1 hp2 hfs hpv
          have HPV := hide hpv
          have j1 : (j : Int) < (S.length : Int) := by omega
          have j0 : (0 : Int) ≤ (j : Int) := by omega
          have ST := hide st
          have HO := hide ho
          have hkey := keyP (h := x) (o := y) (by omega) (by omega)
          have st2 := st.alloc (.cells #[.int .i64 (x : Int), .int .i64 (y : Int)] 85)
          have own2 := ho.alloc (.cells #[.int .i64 (x : Int), .int .i64 (y : Int)] 85)
          have bx := Box.new wi 85 #[.int .i64 (x : Int), .int .i64 (y : Int)]
          have mc := st2.mv.cell 0
          have hwf := WalkArith.wf_i64 (n := (r : Int)) (by omega)
          have n0 := bx.cell 0
          have n1 := bx.cell 1
          clear hq hpv st ho
          go_wp2_with ((at_mapUpdate; refine wpList_mapUpdate_own _ rfl _ _ _ 66 rfl 85 3 mlawP Try.underlying66 (plainElem Try.prog 3) (W.heap.size + 1) nm' D' rfl st2.map (by unfold maxLen; omega) _ _ _ rfl rfl hkey _ [] (plainElem_int Try.underlying3 hwf) ?_; intro w2 om2 hg2; have st3 := st2.mapped hg2 om2))
          exact ⟨⟨j + 1, nm' + 1, _, hjl, by go_num, by omega, st3, (HPV.out r).congr fun a b _ _ => hfs.out a b, own2.kept hg2 (.inr (fun e => by have e : ga = W.heap.size + 1 := Option.some.inj e; omega))⟩, by simp [intOf]; omega⟩
        · obtain rfl : j = S.length := by omega
          rw [List.take_length] at hv
          have ST := hide st
          have HST2 := hide (st.caught (.func (.func 60) #[] #[.pointer (some ⟨W.heap.size, 0, none⟩), .pointer (some ⟨W.heap.size + 3, 0, none⟩)]))
          have hcg := st.cg.cell 0
          have hfr := st.cg.free 0
          have HRT := HLT.out
          have HV2 := hide (hv.out.congr fun a b ha hb => HFAr.out a b ha hb)
          clear st ho hv
          go_wp2_with fail
          exact ⟨⟨r + 1, nm', D', HRT, by go_num, by omega, by rw [show cvR W.heap.size (r + 1) = _ from if_neg (by omega)]; exact HST2.out, HV2.out⟩, by simp [intOf]; omega⟩
end Go.Proofs.Ytakphmcelhbaiab
