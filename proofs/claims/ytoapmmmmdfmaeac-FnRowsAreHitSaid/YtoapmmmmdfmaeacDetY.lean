
/-
  The model's determinant.
-/
import Derived.Test.YtoapmmmmdfmaeacDetX
import Derived.Test.YtoapmmmmdfmaeacGuardM
import Derived.StillTailTactics
namespace Go.Proofs.Ytoapmmmmdfmaeac
open Go.RowKit
set_option linter.unusedVariables false

theorem RowsAt.swap {w : World} {base n p k : Nat} {ps : List (Nat × Nat)} {M : Mat} (h : RowsAt w base n ps M) (hp : p < ps.length) (hk : k < ps.length) : RowsAt w base n ((ps.set p ps[k]).set k ps[p]) (swapP M p k) := by
  have hl := h.len
  have hat : ∀ i (hi : i < ps.length) (hi' : i < ((ps.set p ps[k]).set k ps[p]).length), ((ps.set p ps[k]).set k ps[p])[i] = ps[sg p k i]'(sg_lt hp hk hi) := fun i hi hi' => by
    have := swap_at (l := ps) (p := p) (k := k) (List.getElem?_eq_getElem hp) (List.getElem?_eq_getElem hk) i hi
    rw [List.getElem?_eq_getElem hi', List.getElem?_eq_getElem (sg_lt hp hk hi)] at this
    exact Option.some.inj this
  refine ⟨by rw [swapM_len]; simp [hl], fun i hi => ?_, fun i j hi hj hij => ?_⟩
  · have hi' : i < ps.length := by simpa using hi
    rw [hat i hi' hi, swapM_at (by omega) (by omega) i (by omega)]
    exact h.own _ (sg_lt hp hk hi')
  · have hi' : i < ps.length := by simpa using hi
    have hj' : j < ps.length := by simpa using hj
    rw [hat i hi' hi, hat j hj' hj]
    exact h.apart _ _ _ _ (fun e => hij (sg_inj e))
theorem hdr_put {w : World} {base n gm cm e k : Nat} {ps : List (Nat × Nat)} (h : w.ownsRow base e 1 (.slice (some ⟨gm, 0, none⟩) n cm) n (vsOf n ps)) (q : Nat × Nat) : (w.setCell ⟨gm, k, none⟩ (.slice (some ⟨q.1, 0, none⟩) n q.2)).ownsRow base e 1 (.slice (some ⟨gm, 0, none⟩) n cm) n (vsOf n (ps.set k q)) ∧ w.grownBy (w.setCell ⟨gm, k, none⟩ (.slice (some ⟨q.1, 0, none⟩) n q.2)) (some gm) := by
  obtain ⟨o, g⟩ := h.stored k (.slice (some ⟨q.1, 0, none⟩) n q.2)
  rw [show (vsOf n ps).set k (.slice (some ⟨q.1, 0, none⟩) n q.2) = vsOf n (ps.set k q) by simp [vsOf, List.map_set]] at o
  exact ⟨o, g⟩
theorem swap_rows {w W : World} {n gm cm e q k : Nat} {ps : List (Nat × Nat)} {M : Mat} (hown : w.ownsRow W.heap.size e 1 (.slice (some ⟨gm, 0, none⟩) n cm) n (vsOf n ps)) (hrows : RowsAt w W.heap.size n ps M) (hq : q < ps.length) (hk : k < ps.length) (hqk : q ≠ k)
    (hoff : ∀ i (hi : i < ps.length), ps[i].1 ≠ gm) (hb : Below W.heap.size W w) :
    ∃ ps2 : List (Nat × Nat), ps2.length = ps.length ∧ (∀ pr ∈ ps2, pr.1 ≠ gm) ∧
      ((w.setCell ⟨gm, q, none⟩ (.slice (some ⟨ps[k].1, 0, none⟩) n ps[k].2)).setCell ⟨gm, k, none⟩ (.slice (some ⟨ps[q].1, 0, none⟩) n ps[q].2)).ownsRow W.heap.size e 1 (.slice (some ⟨gm, 0, none⟩) n cm) n (vsOf n ps2) ∧
      RowsAt ((w.setCell ⟨gm, q, none⟩ (.slice (some ⟨ps[k].1, 0, none⟩) n ps[k].2)).setCell ⟨gm, k, none⟩ (.slice (some ⟨ps[q].1, 0, none⟩) n ps[q].2)) W.heap.size n ps2 (swapP M q k) ∧
      Below W.heap.size W ((w.setCell ⟨gm, q, none⟩ (.slice (some ⟨ps[k].1, 0, none⟩) n ps[k].2)).setCell ⟨gm, k, none⟩ (.slice (some ⟨ps[q].1, 0, none⟩) n ps[q].2)) ∧
      (w.setCell ⟨gm, q, none⟩ (.slice (some ⟨ps[k].1, 0, none⟩) n ps[k].2)).cell? ⟨gm, k, none⟩ = some (.slice (some ⟨ps[k].1, 0, none⟩) n ps[k].2) ∧
      (w.setCell ⟨gm, q, none⟩ (.slice (some ⟨ps[k].1, 0, none⟩) n ps[k].2)).frozen? ⟨gm, k, none⟩ = false := by
  have hgm := (hown.lt gm rfl).1
  obtain ⟨o1, g1⟩ := hdr_put (k := q) hown ps[k]
  obtain ⟨ck, ckf⟩ := hdr_cell o1 (k := k) (by simp; omega)
  rw [List.getElem_set_ne (fun h => hqk h)] at ck
  obtain ⟨o2, g2⟩ := hdr_put (k := k) o1 ps[q]
  refine ⟨(ps.set q ps[k]).set k ps[q], by simp, fun pr hpr => ?_, o2, ((hrows.kept g1 (fun i hi e => hoff i hi (by injection e with e; exact e.symm))).kept g2 (fun i hi e => hoff i hi (by injection e with e; exact e.symm))).swap hq hk, (hb.grown g1 hb.size (fun z e => by injection e with e; omega)).grown g2 (Nat.le_trans hb.size g1.size) (fun z e => by injection e with e; omega), ck, ckf⟩
  obtain ⟨i, hi, rfl⟩ := List.getElem_of_mem hpr
  rw [List.getElem_set]
  split
  · exact hoff q hq
  · rw [List.getElem_set]
    split
    · exact hoff k hk
    · exact hoff i (by simpa using hi)
/-- The rows that the call is given. -/
def InRows (w : World) (vs : List Value) (n : Nat) (M : Mat) : Prop := vs.length = M.length ∧ ∀ i, i < M.length → ∃ ad c, vs[i]? = some (.slice (some ad) n c) ∧ Row w (some ad) (ints (M[i]?.getD [])) ∧ (M[i]?.getD []).length = n
theorem InRows.below {w w' : World} {vs : List Value} {n : Nat} {M : Mat} (h : InRows w vs n M) (hb : Below w.heap.size w w') : InRows w' vs n M := ⟨h.1, fun i hi => by
  obtain ⟨ad, c, e1, e2, e3⟩ := h.2 i hi
  exact ⟨ad, c, e1, e2.below hb, e3⟩⟩
set_option maxHeartbeats 4000000 in
set_option maxRecDepth 100000 in
theorem det_c (A : Option Addr) (c : Nat) (vs : List Value) (n : Nat) (M : Mat) (v : Int) (W : World) (hn : M.length = n) (hn1 : 1 ≤ n) (hn25 : n ≤ 25) (hr : Row W A vs) (hin : InRows W vs n M) (hM : matIn M = true) (hv : detP n M 1 1 = some v) :
    Calls Try.prog 47 #[.slice A n c] W (Plain (.int .i64 v) W) := by
  have hvl : vs.length = n := by rw [hin.1, hn]
  have HR := hide hr
  have HI := hide hin
  have HV := hide hv
  have HM := hide hM
  clear hr hin hv hM
  go_enter Try.func47, Try.ntmps47
  go_wp2_with fail
  have hz1 : W.heap.size ≤ (W.alloc (.cells #[] 30)).heap.size := by simp
  go_loopw [4, 5] (fun m i wr => ∃ (k : Nat) (ps : List (Nat × Nat)), k ≤ n ∧ i = .int .i64 (k : Int) ∧ ps.length = k ∧ wr.ownsRow W.heap.size 30 1 m k (vsOf n ps) ∧ RowsAt wr W.heap.size n ps (M.take k) ∧ Hid (∀ i (hi : i < ps.length), m.ownBlock ≠ some ps[i].1) ∧ Below W.heap.size W wr) (fun _ i _ => n - (intOf i).toNat)
  case atStart => exact ⟨0, [], Nat.zero_le _, rfl, rfl, World.ownsRow_made W #[] 0 (Nat.le_refl _) (by simp [maxLen]) rfl, ⟨by simp, fun i hi => absurd hi (by simp), fun i j hi => absurd hi (by simp)⟩, fun i hi => absurd hi (by simp), (Below.refl _ _).alloc (Nat.le_refl _) _⟩
  case round =>
    obtain ⟨k, ps, hk, rfl, hpl, hown, hrows, hoff, hb⟩ := hrel
    obtain ⟨wo, rfl⟩ : ∃ wo : World, wo = wr := ⟨_, rfl⟩
    have zo := hb.size
    obtain ⟨Ah, ch, rfl, _⟩ := own_row hown
    by_cases hlt : k < n
    · obtain ⟨ad0, rfl, hck⟩ := (HR.out.below hb) k (by omega)
      obtain ⟨ad, ci, e1, e2, e3⟩ := (HI.out.below hb).2 k (by omega)
      rw [List.getElem?_eq_getElem (by omega)] at e1
      injection e1 with e1
      rw [e1] at hck
      have hta := show M.take (k + 1) = M.take k ++ [M[k]?.getD []] by rw [List.take_succ_eq_append_getElem (by omega), List.getElem?_eq_getElem (by omega)]; rfl
      obtain ⟨row, hrow⟩ : ∃ row, M[k]?.getD [] = row := ⟨_, rfl⟩
      rw [hrow] at e2 e3 hta
      have hta := hide hta
      clear hrow
      -- the empty row
      have hv1 := hide (World.ownsRow_made wo (e := 3) (size := 1) #[] 0 (Nat.le_refl _) (by simp [maxLen]) rfl)
      have e2a := hide (e2.alloc (.cells #[] 3))
      have hcka : (wo.alloc (.cells #[] 3)).cell? (ad0.add k) = some (.slice (some ad) n ci) := by
        have hlt' := World.block_lt_of_cell? wo _ hck
        rw [World.cell?_alloc_lt wo _ _ hlt']; exact hck
      have hb1 := hide (hb.alloc zo (.cells #[] 3))
      have ho1 := hide (hown.alloc (.cells #[] 3))
      have hr1 := hide (hrows.kept (World.grownBy_alloc wo (.cells #[] 3) none) (fun i hi => by simp))
      have hz0 : wo.heap.size < (wo.alloc (.cells #[] 3)).heap.size := by simp
      have zl := hide (fun i hi => (hrows.lt i hi).2)
      have zh := hide (own_lt hown)
      clear hown hrows hb e2 e1
      have hoffk := hoff
      go_wp2_with (first
        | (at_builtin; refine put_own rfl (.tmp 22) (.tmp 26) rfl Try.underlying30 elem_int' rfl hv1.out rfl (m := n) (news := ints row) (by simp [e3]) e2a.out (by intro u hu; obtain ⟨b, _, rfl⟩ := List.mem_map.1 hu; rfl) (by omega) (by omega) (by omega) ?_
           intro v2 w2 own2 hg2 ho2
           have own2 : w2.ownsRow wo.heap.size 3 1 v2 n (ints row) := (by simpa using own2)
           obtain ⟨b2, c2, rfl, hb2⟩ := own_intv own2 (by omega)
           have hh2 := own_other ho1.out zh.out hv1.out (Nat.le_refl _) hg2
           have hr2 := hr1.out.kept hg2 (fun i hi e => by have e' := zl.out i hi; injection (show some wo.heap.size = some ps[i].1 from e) with e; omega)
           have hbb2 := below_grown hb1.out hb1.out.size hv1.out zo hg2
           have zb2 := (own2.lt b2 rfl).2
           have X1 := hide (own2.alloc (.cells #[.slice (some ⟨b2, 0, none⟩) n c2] 30))
           have X2 := hide (hh2.alloc (.cells #[.slice (some ⟨b2, 0, none⟩) n c2] 30))
           have X3 := hide (hr2.kept (World.grownBy_alloc w2 (.cells #[.slice (some ⟨b2, 0, none⟩) n c2] 30) none) (fun i hi => by simp))
           have X4 := hide (hbb2.alloc hbb2.size (.cells #[.slice (some ⟨b2, 0, none⟩) n c2] 30))
           have zs := hg2.size
           have zx : w2.heap.size < (w2.alloc (.cells #[.slice (some ⟨b2, 0, none⟩) n c2] 30)).heap.size := (by simp)
           clear own2 hh2 hr2 hbb2 hg2 ho2)
        | (at_builtin; refine put_own rfl (.tmp 21) (.tmp 28) rfl Try.underlying79 elem_rowv rfl X2.out rfl (m := 1) (news := [.slice (some ⟨b2, 0, none⟩) n c2]) rfl (row_new _ _ _ rfl) (one_row _ rfl) (by omega) (by omega) X4.out.size ?_
           intro v4 w4 own4 hg4 ho4))
      have hblk : ∀ j, (Value.slice Ah k ch).ownBlock = some j → j < wo.heap.size := zh.out
      have hr4 := X3.out.kept hg4 (fun i hi e => hoffk.out i hi e)
      have ho5 := own_free1 X1.out hg4 (fun e => by
        have := hblk b2 e.symm
        omega)
      refine ⟨⟨k + 1, ps ++ [(b2, c2)], hlt, rfl, by simp [hpl], by simpa [vsOf] using own4, by rw [hta.out]; exact hr4.snoc (own_mono ho5 zo) (fun i hi => by have := zl.out i hi; omega), fun i hi => ?_, below_grown X4.out X4.out.size X2.out (Nat.le_refl _) hg4⟩, by simp [intOf]; omega⟩
      have key : ∀ b, b < (w2.alloc (.cells #[.slice (some ⟨b2, 0, none⟩) n c2] 30)).heap.size → (Value.slice Ah k ch).ownBlock ≠ some b → v4.ownBlock ≠ some b := fun b h1 h2 e => by
        rcases ho4 with h | h
        · exact h2 (h.symm.trans e)
        · rw [h] at e; injection e with e; omega
      by_cases e : i < ps.length
      · rw [List.getElem_append_left e]
        exact key _ (by have := zl.out i e; omega) (hoffk.out i e)
      · have e' : i = ps.length := by simp at hi; omega
        subst e'
        rw [List.getElem_append_right (Nat.le_refl _)]
        simp only [Nat.sub_self, List.getElem_cons_zero]
        exact key _ (by omega) (fun e => by have := hblk b2 e; omega)
    · obtain rfl : n = k := by omega
      obtain ⟨gm, cm, hAh, hgm⟩ := own_rowv hown (by omega)
      injection hAh with hAh
      subst hAh
      have HB := hide hb
      have HRW := hide (show RowsAt wo W.heap.size n ps M by rwa [List.take_of_length_le (by omega)] at hrows)
      have HOW := hide hown
      have HOF := hide (fun i (hi : i < ps.length) => show ps[i].1 ≠ gm from fun e => hoff.out i hi (show some gm = some ps[i].1 by rw [e]))
      clear hown hrows hb hoff
      go_wp2_with fail
      go_loopw [6, 7, 8] (fun s l i wr => ∃ (r : Nat) (ps : List (Nat × Nat)) (M : Mat) (sign last : Int), r ≤ n ∧ i = .int .i64 ((n - r : Nat) : Int) ∧ s = .int .i64 sign ∧ l = .int .i64 last ∧ ps.length = n ∧ (sign = 1 ∨ sign = -1) ∧ (-10000000 ≤ last ∧ last ≤ 10000000) ∧ last ≠ 0 ∧
          wr.ownsRow W.heap.size 30 1 (.slice (some ⟨gm, 0, none⟩) n ch) n (vsOf n ps) ∧ RowsAt wr W.heap.size n ps M ∧ Hid (∀ i (hi : i < ps.length), ps[i].1 ≠ gm) ∧ Hid (BndM M ∧ detP r M sign last = some v) ∧ Below W.heap.size W wr) (fun _ _ i _ => n - (intOf i).toNat)
      case atStart => exact ⟨n, ps, M, 1, 1, Nat.le_refl _, by simp, rfl, rfl, hpl, .inl rfl, by omega, by omega, HOW.out, HRW.out, HOF.out, ⟨bnd_of HM.out, HV.out⟩, HB.out⟩
      case round =>
        clear HOW HRW HOF HB HM HV hpl
        obtain ⟨r, ps, M, sign, last, hr, rfl, rfl, rfl, hpl, hsg, hlb, hl0, hown, hrows, hoff, hdet, hb⟩ := hrel
        obtain ⟨wo, rfl⟩ : ∃ wo : World, wo = wr := ⟨_, rfl⟩
        obtain ⟨k, hk⟩ : ∃ k, n - r = k := ⟨_, rfl⟩
        rw [hk]
        have hml : M.length = n := by rw [← hrows.len, hpl]
        obtain ⟨l1, l2⟩ := hlb
        by_cases hr0 : r = 0
        · subst hr0
          obtain rfl : n = k := by omega
          have HE : Hid (sign * last = v) := by
            have := hdet.out.2
            exact Option.some.inj this
          clear hdet hown hrows hoff
          rcases hsg with rfl | rfl
          · have e1 : IntKind.i64.wrap last = last := IntWalk.i64_in _ (by omega)
            have e2 : IntKind.i64.wrap (1 * last) = last := (IntWalk.i64_in _ (by omega)).trans (by omega)
            go_wp2_with fail
            go_ret
            exact ⟨by rw [← HE.out]; simp, hb⟩
          · have e1 : IntKind.i64.wrap (-last) = -last := IntWalk.i64_in _ (by omega)
            have e2 : IntKind.i64.wrap (-1 * last) = -1 * last := IntWalk.i64_in _ (by omega)
            go_wp2_with fail
            go_ret
            exact ⟨by rw [← HE.out]; simp, hb⟩
        · obtain ⟨r, rfl⟩ : ∃ r', r = r' + 1 := ⟨r - 1, by omega⟩
          have hkn : k < n := by omega
          have hnr : n - r = k + 1 := by omega
          obtain ⟨bnd, hd0⟩ := hdet.out
          have hd : (if pivP M k (n - k) k = n then some 0 else if matIn (elimM k last (if pivP M k (n - k) k = k then M else swapP M (pivP M k (n - k) k) k)) then detP r (elimM k last (if pivP M k (n - k) k = k then M else swapP M (pivP M k (n - k) k) k)) (if pivP M k (n - k) k = k then sign else -sign) (matAt (if pivP M k (n - k) k = k then M else swapP M (pivP M k (n - k) k) k) k k) else none) = some v := by
            unfold detP at hd0
            simp only [hml, hk] at hd0
            exact hd0
          obtain ⟨q1, q2, q3⟩ := piv_spec M k n (n - k) k (by omega)
          have HST := hide (fun t (ht : t < n) => piv_step (M := M) (k := k) ht)
          have HEN := hide (piv_end M k n)
          obtain ⟨q, hq⟩ : ∃ q, pivP M k (n - k) k = q := ⟨_, rfl⟩
          rw [hq] at hd q1 q2 q3
          have HQ := hide hq
          have HD := hide hd
          have Q3 := hide q3
          have BND := hide bnd
          clear hq hd hd0 q3 bnd hdet
          have hkk := hdr_cell hown (k := k) (by omega)
          go_wp2_with fail
          go_loopw [9] (fun p wr => ∃ t : Nat, k ≤ t ∧ t ≤ n ∧ p = .int .i64 (t : Int) ∧ Hid (pivP M k (n - t) t = q) ∧ wo = wr) (fun p _ => n - (intOf p).toNat)
          case atStart => exact ⟨k, Nat.le_refl _, by omega, rfl, HQ.out, rfl⟩
          case round =>
            obtain ⟨t, ht1, ht2, rfl, hqt, rfl⟩ := hrel
            by_cases htn : t < n
            · obtain ⟨ht, htf⟩ := hdr_cell hown (k := t) (by omega)
              obtain ⟨hc, hcf⟩ := hrows.cell (i := t) (j := k) (by omega) hkn
              have hst := HST.out t htn
              rw [hqt.out] at hst
              have htni : (t : Int) < (n : Int) := by omega
              by_cases hz : matAt M t k = 0
              · rw [if_pos hz] at hst
                rw [hz] at hc
                have HN := hide hst.symm
                clear hst hqt hz
                go_wp2_with fail
                exact ⟨⟨t + 1, by omega, by omega, rfl, HN.out, trivial⟩, by simp [intOf]; omega⟩
              · rw [if_neg hz] at hst
                subst hst
                have hzi : (matAt M q k == 0) = false := by rw [beq_eq_false_iff_ne]; exact hz
                have hqn : ((q : Int) == (n : Int)) = false := by rw [beq_eq_false_iff_ne]; omega
                have hd2 := HD.out
                rw [if_neg (by omega)] at hd2
                obtain ⟨y, hy⟩ : ∃ y, matAt M q k = y := ⟨_, rfl⟩
                rw [hy] at hc hzi
                have HY := hide hy
                have hy0 : y ≠ 0 := by rw [← hy]; exact hz
                clear hz hy HQ HST HEN hqt Q3
                by_cases hqk : q = k
                · subst hqk
                  simp only [if_true] at hd2
                  have hqq : ((q : Int) != (q : Int)) = false := by simp
                  have HOW1 := hide hown
                  have HRW1 := hide hrows
                  have HB1 := hide hb
                  have HML := hide hml
                  have BM := BND
                  have HYY := HY
                  have HPL := hide hpl
                  have HSG := hide hsg
                  have HOFF := hoff
                  have hmi : matIn (elimM q last M) = true := by
                    cases hm : matIn (elimM q last M) with
                    | true => rfl
                    | false => rw [hm] at hd2; cases hd2
                  rw [if_pos hmi] at hd2
                  have HD2 := hide hd2
                  have HMI := hide (bnd_of hmi)
                  have hML : (M).length = n := HML.out
                  have hrl := hide (fun a (ha : a < (M).length) => show ((M)[a]?.getD []).length = n from HRW1.out.rowlen a (by rw [HRW1.out.len]; exact ha))
                  have HMS := hide (midM_start q last (M))
                  have HMN := hide (fun i (hi : q < i) => midM_next (k := q) (last := last) (M := M) (n := n) (i := i) hi hrl.out)
                  have HME := hide (fun j => midM_end q last (M) (n := n) (j := j) hML)
                  have HMP := hide (fun i j (hi : i < n) (hj : j < n) (hkj : q < j) => midM_set (k := q) (last := last) (M := M) (i := i) (j := j) (by omega) (by rw [hrl.out i (by omega)]; exact hj) hkj)
                  have HMR := hide (fun i j (hki : q < i) (hkj : q < j) (hi : i < n) (hj : j < n) => midM_reads (k := q) (last := last) (M := M) (i := i) (j := j) hki hkj (by omega) (by rw [hrl.out i (by omega)]; exact hj))
                  have HKE := hide (show matAt (elimM q last (M)) q q = matAt (M) q q by unfold matAt; rw [elimM_at (by omega), if_pos (Nat.le_refl _)])
                  clear hd2 hmi hML
                  go_wp2_with fail
                  go_loopw [11] (fun i wr => ∃ i0 : Nat, q + 1 ≤ i0 ∧ i0 ≤ n ∧ i = .int .i64 (i0 : Int) ∧ wr.ownsRow W.heap.size 30 1 (.slice (some ⟨gm, 0, none⟩) n ch) n (vsOf n ps) ∧ RowsAt wr W.heap.size n ps (midM q last (M) i0 (q + 1)) ∧ Below W.heap.size W wr) (fun i _ => n - (intOf i).toNat)
                  case atStart => exact ⟨q + 1, Nat.le_refl _, by omega, rfl, HOW1.out, by rw [HMS.out]; exact HRW1.out, HB1.out⟩
                  case round =>
                    clear HOW1 HRW1 HB1
                    obtain ⟨i0, hi1, hi2, rfl, hown, hrows, hb⟩ := hrel
                    obtain ⟨wa, rfl⟩ : ∃ wa : World, wa = wr := ⟨_, rfl⟩
                    by_cases hin : i0 < n
                    · go_wp2_with fail
                      go_loopw [12] (fun j wr => ∃ j0 : Nat, q + 1 ≤ j0 ∧ j0 ≤ n ∧ j = .int .i64 (j0 : Int) ∧ wr.ownsRow W.heap.size 30 1 (.slice (some ⟨gm, 0, none⟩) n ch) n (vsOf n ps) ∧ RowsAt wr W.heap.size n ps (midM q last (M) i0 j0) ∧ Below W.heap.size W wr) (fun j _ => n - (intOf j).toNat)
                      case atStart => exact ⟨q + 1, Nat.le_refl _, by omega, rfl, hown, hrows, hb⟩
                      case round =>
                        clear hown hrows hb
                        obtain ⟨j0, hj1, hj2, rfl, hown, hrows, hb⟩ := hrel
                        obtain ⟨wi, rfl⟩ : ∃ wi : World, wi = wr := ⟨_, rfl⟩
                        by_cases hjn : j0 < n
                        · obtain ⟨ci1, ci2⟩ := hdr_cell hown (k := i0) (by omega)
                          obtain ⟨ck1, ck2⟩ := hdr_cell hown (k := q) (by omega)
                          obtain ⟨r1, r2, r3⟩ := HMR.out i0 j0 (by omega) (by omega) hin hjn
                          obtain ⟨a1, f1⟩ := hrows.cell (i := i0) (j := j0) (by omega) hjn
                          obtain ⟨a2, _⟩ := hrows.cell (i := i0) (j := q) (by omega) (by omega)
                          obtain ⟨a3, _⟩ := hrows.cell (i := q) (j := q) (by omega) (by omega)
                          obtain ⟨a4, _⟩ := hrows.cell (i := q) (j := j0) (by omega) hjn
                          have hwr := fun wd (hd : RowsAt wd W.heap.size n ps (midM q last (M) i0 j0)) => hd.put (i := i0) (j := j0) (by omega) hjn ((matAt (M) i0 j0 * matAt (M) q q - matAt (M) i0 q * matAt (M) q j0).tdiv last)
                          rw [HMP.out i0 j0 hin hjn (by omega)] at hwr
                          have hcl := fun wd (hd : RowsAt wd W.heap.size n ps (midM q last (M) i0 j0)) => hd.cell (i := i0) (j := j0) (by omega) hjn
                          rw [show matAt (midM q last (M) i0 j0) i0 j0 = matAt (M) i0 j0 from r1] at a1 hcl
                          rw [show matAt (midM q last (M) i0 j0) i0 q = matAt (M) i0 q from r2] at a2
                          rw [show matAt (midM q last (M) i0 j0) q q = matAt (M) q q by unfold matAt; rw [r3]] at a3
                          rw [show matAt (midM q last (M) i0 j0) q j0 = matAt (M) q j0 by unfold matAt; rw [r3]] at a4
                          have m1 := mul_bdM (BM.out i0 j0) (BM.out q q)
                          have m2 := mul_bdM (BM.out i0 q) (BM.out q j0)
                          clear r1 r2 r3
                          generalize matAt (M) i0 j0 = x1 at *
                          generalize matAt (M) i0 q = x2 at *
                          generalize matAt (M) q j0 = x4 at *
                          obtain ⟨x3, hx3⟩ : ∃ x3, matAt (M) q q = x3 := ⟨_, rfl⟩
                          rw [hx3] at a3 hwr m1
                          clear hx3
                          have e1 : IntKind.i64.wrap (x1 * x3) = x1 * x3 := IntWalk.i64_in _ (by omega)
                          have e2 : IntKind.i64.wrap (x2 * x4) = x2 * x4 := IntWalk.i64_in _ (by omega)
                          have e3 : IntKind.i64.wrap (x1 * x3 - x2 * x4) = x1 * x3 - x2 * x4 := IntWalk.i64_in _ (by omega)
                          have m3 := tdiv_bdM (a := x1 * x3 - x2 * x4) (b := last) (by omega)
                          obtain ⟨E, hE⟩ : ∃ E, Int.tdiv (x1 * x3 - x2 * x4) last = E := ⟨_, rfl⟩
                          rw [hE] at m3 hwr
                          have e4 : IntKind.i64.wrap E = E := IntWalk.i64_in _ (by omega)
                          have KEY := hide (show wrap64 (Int.tdiv (wrap64 (wrap64 (x1 * x3) - wrap64 (x2 * x4))) last) = E by
                            simp only [← IntWalk.i64_left]
                            rw [e1, e2, e3, hE, e4])
                          clear e1 e2 e3 e4 m1 m2 m3
                          have HWR := hide hwr
                          have HCL := hide hcl
                          clear hwr hcl hE f1
                          have hoi := HOFF.out i0 (by omega)
                          have zbi := (hrows.lt i0 (by omega)).1
                          go_wp2_with fail
                          go_still_tail 39, (by kernel_rfl)
                          have hownd := hown.drew
                          have hrowsd := hrows.drew
                          have hbd := hb.drew
                          change wpList _ _ _ _ _ wi.drew
                          clear hown hrows hb ci1 ci2 ck1 ck2 a1 a2 a3 a4
                          generalize wi.drew = wd at *
                          obtain ⟨d1, d2⟩ := HCL.out wd hrowsd
                          obtain ⟨d3, d4⟩ := HWR.out wd hrowsd
                          have Y1 := hide d3
                          have Y2 := hide (own_free1 hownd d4 (fun e => hoi (by injection (show some gm = some ps[i0].1 from e) with e; exact e.symm)))
                          have Y3 := hide (hbd.grown d4 hbd.size (fun z e => by injection e with e; omega))
                          clear d3 d4 hownd hrowsd hbd HWR HCL
                          go_wp2_with fail
                          rw [KEY.out]
                          exact ⟨⟨j0 + 1, by omega, by omega, rfl, Y2.out, Y1.out, Y3.out⟩, by simp [intOf]; omega⟩
                        · obtain rfl : n = j0 := by omega
                          rw [HMN.out i0 (by omega)] at hrows
                          have Y1 := hide hown
                          have Y2 := hide hrows
                          have Y3 := hide hb
                          clear hown hrows hb
                          go_wp2_with fail
                          go_round
                          case rel => exact ⟨i0 + 1, by omega, by omega, rfl, Y1.out, Y2.out, Y3.out⟩
                          case measure => simp [intOf]; omega
                    · obtain rfl : n = i0 := by omega
                      rw [HME.out] at hrows
                      obtain ⟨ck1, _⟩ := hdr_cell hown (k := q) (by omega)
                      obtain ⟨a3, _⟩ := hrows.cell (i := q) (j := q) (by omega) (by omega)
                      rw [HKE.out] at a3
                      have hyb := BM.out q q
                      rw [HYY.out] at a3 hyb
                      have Y1 := hide hown
                      have Y2 := hide hrows
                      have Y3 := hide hb
                      have Y4 := hide (show BndM (elimM q last (M)) ∧ detP r (elimM q last (M)) (sign) y = some v from ⟨HMI.out, by have := HD2.out; rwa [HYY.out] at this⟩)
                      clear hown hrows hb HMI HD2
                      go_wp2_with fail
                      go_round
                      case rel => exact ⟨r, ps, elimM q last (M), sign, y, by omega, by rw [hnr]; rfl, rfl, rfl, HPL.out, HSG.out, by omega, hy0, Y1.out, Y2.out, HOFF.out, Y4.out, Y3.out⟩
                      case measure => simp [intOf]; omega
                · have hqki : ((q : Int) != (k : Int)) = true := by rw [bne_iff_ne]; omega
                  simp only [if_neg hqk] at hd2
                  obtain ⟨ps2, s1, s2, s3, s4, s5, ck, ckf⟩ := swap_rows hown hrows (q := q) (k := k) (by omega) (by omega) hqk hoff.out hb
                  have HML := hide (show (swapP M q k).length = n by rw [swapM_len, hml])
                  have BM := hide (swapM_bnd (p := q) (k := k) (by omega) (by omega) BND.out)
                  have HYY := hide (show matAt (swapP M q k) k k = y by rw [swapM_mat (by omega) (by omega) k k (by omega)]; unfold sg; rw [if_pos rfl]; exact HY.out)
                  have HSG := hide (show -sign = 1 ∨ -sign = -1 by rcases hsg with h | h <;> omega)
                  have esg : IntKind.i64.wrap (-sign) = -sign := IntWalk.i64_in _ (by rcases hsg with h | h <;> omega)
                  have HOW1 := hide s3
                  have HRW1 := hide s4
                  have HB1 := hide s5
                  have hpl2 : ps2.length = n := by omega
                  have HOFF := hide (fun i (hi : i < ps2.length) => s2 _ (List.getElem_mem hi))
                  clear hown hrows hb s1 s2 s3 s4 s5
                  generalize swapP M q k = M2 at *
                  have HPL := hide hpl2
                  obtain ⟨hkk1, hkk2⟩ := hkk
                  have hmi : matIn (elimM k last M2) = true := by
                    cases hm : matIn (elimM k last M2) with
                    | true => rfl
                    | false => rw [hm] at hd2; cases hd2
                  rw [if_pos hmi] at hd2
                  have HD2 := hide hd2
                  have HMI := hide (bnd_of hmi)
                  have hML : (M2).length = n := HML.out
                  have hrl := hide (fun a (ha : a < (M2).length) => show ((M2)[a]?.getD []).length = n from HRW1.out.rowlen a (by rw [HRW1.out.len]; exact ha))
                  have HMS := hide (midM_start k last (M2))
                  have HMN := hide (fun i (hi : k < i) => midM_next (k := k) (last := last) (M := M2) (n := n) (i := i) hi hrl.out)
                  have HME := hide (fun j => midM_end k last (M2) (n := n) (j := j) hML)
                  have HMP := hide (fun i j (hi : i < n) (hj : j < n) (hkj : k < j) => midM_set (k := k) (last := last) (M := M2) (i := i) (j := j) (by omega) (by rw [hrl.out i (by omega)]; exact hj) hkj)
                  have HMR := hide (fun i j (hki : k < i) (hkj : k < j) (hi : i < n) (hj : j < n) => midM_reads (k := k) (last := last) (M := M2) (i := i) (j := j) hki hkj (by omega) (by rw [hrl.out i (by omega)]; exact hj))
                  have HKE := hide (show matAt (elimM k last (M2)) k k = matAt (M2) k k by unfold matAt; rw [elimM_at (by omega), if_pos (Nat.le_refl _)])
                  clear hd2 hmi hML
                  go_wp2_with fail
                  go_loopw [11] (fun i wr => ∃ i0 : Nat, k + 1 ≤ i0 ∧ i0 ≤ n ∧ i = .int .i64 (i0 : Int) ∧ wr.ownsRow W.heap.size 30 1 (.slice (some ⟨gm, 0, none⟩) n ch) n (vsOf n ps2) ∧ RowsAt wr W.heap.size n ps2 (midM k last (M2) i0 (k + 1)) ∧ Below W.heap.size W wr) (fun i _ => n - (intOf i).toNat)
                  case atStart => exact ⟨k + 1, Nat.le_refl _, by omega, rfl, HOW1.out, by rw [HMS.out]; exact HRW1.out, HB1.out⟩
                  case round =>
                    clear HOW1 HRW1 HB1
                    obtain ⟨i0, hi1, hi2, rfl, hown, hrows, hb⟩ := hrel
                    obtain ⟨wa, rfl⟩ : ∃ wa : World, wa = wr := ⟨_, rfl⟩
                    by_cases hin : i0 < n
                    · go_wp2_with fail
                      go_loopw [12] (fun j wr => ∃ j0 : Nat, k + 1 ≤ j0 ∧ j0 ≤ n ∧ j = .int .i64 (j0 : Int) ∧ wr.ownsRow W.heap.size 30 1 (.slice (some ⟨gm, 0, none⟩) n ch) n (vsOf n ps2) ∧ RowsAt wr W.heap.size n ps2 (midM k last (M2) i0 j0) ∧ Below W.heap.size W wr) (fun j _ => n - (intOf j).toNat)
                      case atStart => exact ⟨k + 1, Nat.le_refl _, by omega, rfl, hown, hrows, hb⟩
                      case round =>
                        clear hown hrows hb
                        obtain ⟨j0, hj1, hj2, rfl, hown, hrows, hb⟩ := hrel
                        obtain ⟨wi, rfl⟩ : ∃ wi : World, wi = wr := ⟨_, rfl⟩
                        by_cases hjn : j0 < n
                        · obtain ⟨ci1, ci2⟩ := hdr_cell hown (k := i0) (by omega)
                          obtain ⟨ck1, ck2⟩ := hdr_cell hown (k := k) (by omega)
                          obtain ⟨r1, r2, r3⟩ := HMR.out i0 j0 (by omega) (by omega) hin hjn
                          obtain ⟨a1, f1⟩ := hrows.cell (i := i0) (j := j0) (by omega) hjn
                          obtain ⟨a2, _⟩ := hrows.cell (i := i0) (j := k) (by omega) (by omega)
                          obtain ⟨a3, _⟩ := hrows.cell (i := k) (j := k) (by omega) (by omega)
                          obtain ⟨a4, _⟩ := hrows.cell (i := k) (j := j0) (by omega) hjn
                          have hwr := fun wd (hd : RowsAt wd W.heap.size n ps2 (midM k last (M2) i0 j0)) => hd.put (i := i0) (j := j0) (by omega) hjn ((matAt (M2) i0 j0 * matAt (M2) k k - matAt (M2) i0 k * matAt (M2) k j0).tdiv last)
                          rw [HMP.out i0 j0 hin hjn (by omega)] at hwr
                          have hcl := fun wd (hd : RowsAt wd W.heap.size n ps2 (midM k last (M2) i0 j0)) => hd.cell (i := i0) (j := j0) (by omega) hjn
                          rw [show matAt (midM k last (M2) i0 j0) i0 j0 = matAt (M2) i0 j0 from r1] at a1 hcl
                          rw [show matAt (midM k last (M2) i0 j0) i0 k = matAt (M2) i0 k from r2] at a2
                          rw [show matAt (midM k last (M2) i0 j0) k k = matAt (M2) k k by unfold matAt; rw [r3]] at a3
                          rw [show matAt (midM k last (M2) i0 j0) k j0 = matAt (M2) k j0 by unfold matAt; rw [r3]] at a4
                          have m1 := mul_bdM (BM.out i0 j0) (BM.out k k)
                          have m2 := mul_bdM (BM.out i0 k) (BM.out k j0)
                          clear r1 r2 r3
                          generalize matAt (M2) i0 j0 = x1 at *
                          generalize matAt (M2) i0 k = x2 at *
                          generalize matAt (M2) k j0 = x4 at *
                          obtain ⟨x3, hx3⟩ : ∃ x3, matAt (M2) k k = x3 := ⟨_, rfl⟩
                          rw [hx3] at a3 hwr m1
                          clear hx3
                          have e1 : IntKind.i64.wrap (x1 * x3) = x1 * x3 := IntWalk.i64_in _ (by omega)
                          have e2 : IntKind.i64.wrap (x2 * x4) = x2 * x4 := IntWalk.i64_in _ (by omega)
                          have e3 : IntKind.i64.wrap (x1 * x3 - x2 * x4) = x1 * x3 - x2 * x4 := IntWalk.i64_in _ (by omega)
                          have m3 := tdiv_bdM (a := x1 * x3 - x2 * x4) (b := last) (by omega)
                          obtain ⟨E, hE⟩ : ∃ E, Int.tdiv (x1 * x3 - x2 * x4) last = E := ⟨_, rfl⟩
                          rw [hE] at m3 hwr
                          have e4 : IntKind.i64.wrap E = E := IntWalk.i64_in _ (by omega)
                          have KEY := hide (show wrap64 (Int.tdiv (wrap64 (wrap64 (x1 * x3) - wrap64 (x2 * x4))) last) = E by
                            simp only [← IntWalk.i64_left]
                            rw [e1, e2, e3, hE, e4])
                          clear e1 e2 e3 e4 m1 m2 m3
                          have HWR := hide hwr
                          have HCL := hide hcl
                          clear hwr hcl hE f1
                          have hoi := HOFF.out i0 (by omega)
                          have zbi := (hrows.lt i0 (by omega)).1
                          go_wp2_with fail
                          go_still_tail 39, (by kernel_rfl)
                          have hownd := hown.drew
                          have hrowsd := hrows.drew
                          have hbd := hb.drew
                          change wpList _ _ _ _ _ wi.drew
                          clear hown hrows hb ci1 ci2 ck1 ck2 a1 a2 a3 a4
                          generalize wi.drew = wd at *
                          obtain ⟨d1, d2⟩ := HCL.out wd hrowsd
                          obtain ⟨d3, d4⟩ := HWR.out wd hrowsd
                          have Y1 := hide d3
                          have Y2 := hide (own_free1 hownd d4 (fun e => hoi (by injection (show some gm = some ps2[i0].1 from e) with e; exact e.symm)))
                          have Y3 := hide (hbd.grown d4 hbd.size (fun z e => by injection e with e; omega))
                          clear d3 d4 hownd hrowsd hbd HWR HCL
                          go_wp2_with fail
                          rw [KEY.out]
                          exact ⟨⟨j0 + 1, by omega, by omega, rfl, Y2.out, Y1.out, Y3.out⟩, by simp [intOf]; omega⟩
                        · obtain rfl : n = j0 := by omega
                          rw [HMN.out i0 (by omega)] at hrows
                          have Y1 := hide hown
                          have Y2 := hide hrows
                          have Y3 := hide hb
                          clear hown hrows hb
                          go_wp2_with fail
                          go_round
                          case rel => exact ⟨i0 + 1, by omega, by omega, rfl, Y1.out, Y2.out, Y3.out⟩
                          case measure => simp [intOf]; omega
                    · obtain rfl : n = i0 := by omega
                      rw [HME.out] at hrows
                      obtain ⟨ck1, _⟩ := hdr_cell hown (k := k) (by omega)
                      obtain ⟨a3, _⟩ := hrows.cell (i := k) (j := k) (by omega) (by omega)
                      rw [HKE.out] at a3
                      have hyb := BM.out k k
                      rw [HYY.out] at a3 hyb
                      have Y1 := hide hown
                      have Y2 := hide hrows
                      have Y3 := hide hb
                      have Y4 := hide (show BndM (elimM k last (M2)) ∧ detP r (elimM k last (M2)) (-sign) y = some v from ⟨HMI.out, by have := HD2.out; rwa [HYY.out] at this⟩)
                      clear hown hrows hb HMI HD2
                      go_wp2_with fail
                      go_round
                      case rel => exact ⟨r, ps2, elimM k last (M2), -sign, y, by omega, by rw [hnr]; rfl, rfl, rfl, HPL.out, HSG.out, by omega, hy0, Y1.out, Y2.out, HOFF.out, Y4.out, Y3.out⟩
                      case measure => simp [intOf]; omega
            · obtain rfl : n = t := by omega
              have hqn : q = n := by have h1 := hqt.out; have h2 := HEN.out; omega
              have hv0 : v = 0 := by have := HD.out; rw [if_pos hqn] at this; injection this with this; exact this.symm
              have HV0 := hide hv0
              clear hv0 HD hown hrows hkk hqt HQ Q3 HST HEN
              go_wp2_with fail
              go_ret
              exact ⟨by rw [HV0.out]; rfl, hb⟩
end Go.Proofs.Ytoapmmmmdfmaeac
