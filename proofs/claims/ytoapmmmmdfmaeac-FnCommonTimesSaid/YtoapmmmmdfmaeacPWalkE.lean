
/-
  Walks by chance: the program's leaveOut.
-/
import Derived.Test.YtoapmmmmdfmaeacPWalkM
import Derived.Deep.RegionHeld3
namespace Go.Proofs.Ytoapmmmmdfmaeac
open Go.RowKit
set_option linter.unusedVariables false

/-- What stands while a stop is left out: the stops, its copy, and the sum of its fractions. -/
structure Lv (W w : World) (base g cs n : Nat) (vs : Nat → Value) (M : Nat → Nat → Nat × Nat) (b4 b5 : Nat) (x4 : Array Value) (x5 : Nat × Nat) : Prop where
  st : StopsAt w base g cs n vs (fun _ => n) M
  thr : Box w b4 73 x4
  lvs : Box w b5 26 #[.int .i64 (x5.1 : Int), .int .i64 (x5.2 : Int)]
  bel : Below base W w
section
variable {W w w' : World} {base g cs n b4 b5 : Nat} {vs : Nat → Value} {M : Nat → Nat → Nat × Nat} {x4 : Array Value} {x5 : Nat × Nat}
theorem Lv.below (h : Lv W w base g cs n vs M b4 b5 x4 x5) (hb : Below w.heap.size w w') : Lv W w' base g cs n vs M b4 b5 x4 x5 :=
  ⟨h.st.below hb, h.thr.then hb, h.lvs.then hb, below_then h.bel (by have := h.st.lt; omega) hb⟩
theorem Lv.drew (h : Lv W w base g cs n vs M b4 b5 x4 x5) : Lv W w.drew base g cs n vs M b4 b5 x4 x5 := ⟨h.st.drew, h.thr, h.lvs, h.bel.drew⟩
theorem Lv.alloc (h : Lv W w base g cs n vs M b4 b5 x4 x5) (o : Obj) : Lv W (w.alloc o) base g cs n vs M b4 b5 x4 x5 := h.below ((Below.refl _ _).alloc (Nat.le_refl _) o)
theorem Lv.congr (h : Lv W w base g cs n vs M b4 b5 x4 x5) {M' : Nat → Nat → Nat × Nat} (he : ∀ i j, i < n → j ≤ n → M i j = M' i j) : Lv W w base g cs n vs M' b4 b5 x4 x5 := ⟨h.st.congr he, h.thr, h.lvs, h.bel⟩
theorem Lv.size (h : Lv W w base g cs n vs M b4 b5 x4 x5) : W.heap.size ≤ w.heap.size := h.bel.size
theorem Box.put2 {w : World} {g : Nat} {t : TypeId} {x y : Value} (h : Box w g t #[x, y]) (u v : Value) : Box ((w.setCell ⟨g, 0, none⟩ u).setCell ⟨g, 1, none⟩ v) g t #[u, v] := by simpa using (h.set 0 u).set 1 v
/-- The moves of a stop written. -/
theorem Lv.put (h : Lv W w base g cs n vs M b4 b5 x4 x5) {i : Nat} (hi : i < n) (p : Nat × Nat) (h4 : g ≠ b4) (h5 : g ≠ b5) :
    Lv W ((w.setCell ⟨g, i * 3, none⟩ (.int .i64 (p.1 : Int))).setCell ⟨g, i * 3 + 1, none⟩ (.int .i64 (p.2 : Int))) base g cs n vs (fun a b => if a = i ∧ b = 0 then p else M a b) b4 b5 x4 x5 := by
  obtain ⟨s, hg⟩ := h.st.put hi p
  exact ⟨s, h.thr.grown hg (fun e => h4 (by injection e)), h.lvs.grown hg (fun e => h5 (by injection e)), h.bel.grown hg (by have := h.st.lt; omega) (fun k e => by have := h.st.lt; injection e with e; omega)⟩
/-- A fraction of a stop written. -/
theorem Lv.putA (h : Lv W w base g cs n vs M b4 b5 x4 x5) {i t q d : Nat} (hi : i < n) (ht : t < n) (hv : vs i = .slice (some ⟨q, 0, none⟩) n d) (p : Nat × Nat) (h4 : q ≠ b4) (h5 : q ≠ b5) (hq : base ≤ q) :
    Lv W ((w.setCell ⟨q, t * 2, none⟩ (.int .i64 (p.1 : Int))).setCell ⟨q, t * 2 + 1, none⟩ (.int .i64 (p.2 : Int))) base g cs n vs (fun a b => if a = i ∧ b = t + 1 then p else M a b) b4 b5 x4 x5 := by
  obtain ⟨s, hg⟩ := h.st.putA hi ht hv p
  exact ⟨s, h.thr.grown hg (fun e => h4 (by injection e)), h.lvs.grown hg (fun e => h5 (by injection e)), h.bel.grown hg (by have := h.st.lt; omega) (fun k e => by injection e with e; omega)⟩
/-- The sum written. -/
theorem StopsAt.other {w w' : World} {base g c n : Nat} {vs : Nat → Value} {ls : Nat → Nat} {M : Nat → Nat → Nat × Nat} (h : StopsAt w base g c n vs ls M) {b : Nat} (h1 : g ≠ b) (h2 : ∀ i, i < n → (vs i).ownBlock ≠ some b) (hg : w.grownBy w' (some b)) : StopsAt w' base g c n vs ls M :=
  ⟨h.row.kept hg (.inr fun e => h1 (by injection e)), fun i hi => (h.own i hi).kept hg (.inr (h2 i hi)), h.apart⟩
theorem Lv.setL (h : Lv W w base g cs n vs M b4 b5 x4 x5) (p : Nat × Nat) (h1 : g ≠ b5) (h2 : ∀ i, i < n → (vs i).ownBlock ≠ some b5) (h4 : b4 ≠ b5) (h5 : base ≤ b5) :
    Lv W ((w.setCell ⟨b5, 0, none⟩ (.int .i64 (p.1 : Int))).setCell ⟨b5, 1, none⟩ (.int .i64 (p.2 : Int))) base g cs n vs M b4 b5 x4 p := by
  have hg := grown_then (grown_setP w b5 0 (.int .i64 (p.1 : Int))) (grown_setP (w.setCell ⟨b5, 0, none⟩ (.int .i64 (p.1 : Int))) b5 1 (.int .i64 (p.2 : Int)))
  refine ⟨h.st.other h1 h2 hg, h.thr.grown hg (fun e => h4 (by injection e with e; exact e.symm)), ?_, h.bel.grown hg (by have := h.st.lt; omega) (fun k e => by injection e with e; omega)⟩
  simpa using (h.lvs.set 0 (.int .i64 (p.1 : Int))).set 1 (.int .i64 (p.2 : Int))
theorem Lv.elsewhere (h : Lv W w base g cs n vs M b4 b5 x4 x5) {b : Nat} (hg : w.grownBy w' (some b)) (h1 : g ≠ b) (h2 : ∀ i, i < n → (vs i).ownBlock ≠ some b) (h4 : b4 ≠ b) (h5 : b5 ≠ b) (hb : base ≤ b) : Lv W w' base g cs n vs M b4 b5 x4 x5 :=
  ⟨h.st.other h1 h2 hg, h.thr.grown hg (fun e => h4 (by injection e with e; exact e.symm)), h.lvs.grown hg (fun e => h5 (by injection e with e; exact e.symm)), h.bel.grown hg (by have := h.st.lt; omega) (fun k e => by injection e with e; omega)⟩
end
set_option maxHeartbeats 8000000 in
set_option maxRecDepth 100000 in
theorem leaveOut_c (base g cs n out : Nat) (vs : Nat → Value) (M : List (List (Nat × Nat))) (W : World) (hst : StopsAt W base g cs n vs (fun _ => n) (hAt M)) (hout : out < n) (hn9 : n ≤ 9) (hOK : LeaveOk n out M) :
    Calls Try.prog 37 #[.slice (some ⟨g, 0, none⟩) n cs, .int .i64 (out : Int)] W fun e w' => e = .returned (.tuple #[]) ∧ StopsAt w' base g cs n vs (fun _ => n) (hAt (leaveM n out M)) ∧ Below base W w' := by
  obtain ⟨qo, co, hvo, hqo1, hqo2⟩ := hst.slice hout (by omega)
  obtain ⟨hg1, hg2⟩ := hst.lt
  have HVS := hide (fun i (hi : i < n) => hst.slice hi (by omega))
  have HRO := hide (fun c (hc : c < n) => round_ok hOK hc)
  have HOK := hide hOK
  have HLV := hide (fun k (hk : k ≤ n) => sumC_ok (round_ok hOK hout).sum k hk)
  have HLS : Hid (∀ k, sumC' (mRow M out) (k + 1) = plusC (sumC' (mRow M out) k) (hAt M out (k + 1))) := fun k => rfl
  obtain ⟨d0, d1, d2, df⟩ := sts_cell hst.row hout
  have HL0 := hide (hst.own out hout)
  rw [hvo] at d2 HL0
  have HST := hide hst
  obtain ⟨F, hF⟩ : ∃ F, hAt M out 0 = F := ⟨_, rfl⟩
  rw [hF] at d0 d1
  have HF := hide hF
  have o0 : (0 : Int) ≤ (out : Int) := by omega
  have o1 : (out : Int) < (n : Int) := by omega
  clear hst hOK hF df
  have HNE := hide (fun b (hb : W.heap.size ≤ b) i (hi : i < n) => show (vs i).ownBlock ≠ some b from fun e => by have := ((HST.out.own i hi).lt b e).2; omega)
  go_enter Try.func37, Try.ntmps37
  go_wp2_with fail
  refine (pWhole_c _ _).mono ?_
  rintro e w2 ⟨rfl, b2⟩
  have bx4 := (Box.new W 73 #[.int .i64 (F.1 : Int), .int .i64 (F.2 : Int), .slice (some ⟨qo, 0, none⟩) n co]).then b2
  have t2 := bx4.cell 2
  have z2 := bx4.in_
  have st2 := (HST.out.below ((Below.refl W.heap.size W).alloc (Nat.le_refl _) (.cells #[.int .i64 (F.1 : Int), .int .i64 (F.2 : Int), .slice (some ⟨qo, 0, none⟩) n co] 73))).below b2
  have hb2 := below_then ((Below.refl base W).alloc (by omega) (.cells #[.int .i64 (F.1 : Int), .int .i64 (F.2 : Int), .slice (some ⟨qo, 0, none⟩) n co] 73)) (by simp; omega) b2
  have LV2 : Hid (Lv W (w2.alloc (.cells #[.int .i64 0, .int .i64 1] 26)) base g cs n vs (hAt M) W.heap.size w2.heap.size #[.int .i64 (F.1 : Int), .int .i64 (F.2 : Int), .slice (some ⟨qo, 0, none⟩) n co] (sumC' (mRow M out) 0)) :=
    ⟨st2.below ((Below.refl _ _).alloc (Nat.le_refl _) _), bx4.alloc _, Box.new w2 26 #[.int .i64 0, .int .i64 1], hb2.alloc (by omega) _⟩
  clear bx4 st2 hb2
  go_wp2_with fail
  go_loopw [21] (fun i wr => ∃ k : Nat, k ≤ n ∧ i = .int .i64 (k : Int) ∧ Lv W wr base g cs n vs (hAt M) W.heap.size w2.heap.size #[.int .i64 (F.1 : Int), .int .i64 (F.2 : Int), .slice (some ⟨qo, 0, none⟩) n co] (sumC' (mRow M out) k)) (fun i _ => n - (intOf i).toNat)
  case atStart => exact ⟨0, Nat.zero_le _, rfl, LV2.out⟩
  case round =>
    clear LV2 t2 b2 d0 d1 d2
    obtain ⟨k, hk, rfl, lv⟩ := hrel
    obtain ⟨wo, rfl⟩ : ∃ wo : World, wo = wr := ⟨_, rfl⟩
    by_cases hlt : k < n
    · have ho := lv.st.own out hout
      rw [hvo] at ho
      obtain ⟨c0, c1, _, _⟩ := frs_cell ho hlt
      have l0 := lv.lvs.cell 0
      have l1 := lv.lvs.cell 1
      have HP := hide (fun w5 => pPlusC (sumC' (mRow M out) k) (hAt M out (k + 1)) w5 (by rw [← HLS.out]; exact HLV.out (k + 1) hlt))
      have HE := hide (HLS.out k)
      have k0 : (0 : Int) ≤ (k : Int) := by omega
      have k1 : (k : Int) < (n : Int) := by omega
      have z5 := lv.lvs.in_
      have LV := hide lv
      clear lv ho
      obtain ⟨y2, hy2⟩ : ∃ y2, sumC' (mRow M out) (k + 1) = y2 := ⟨_, rfl⟩
      rw [hy2] at HE
      have HY2 := hide hy2
      clear hy2
      generalize sumC' (mRow M out) k = y at *
      generalize hAt M out (k + 1) = p at *
      rw [← HE.out] at HP
      go_wp2_with fail
      refine (HP.out _).mono ?_
      rintro e w6 ⟨rfl, b6⟩
      have lv6 := (LV.out.alloc _).below b6
      have m0 := lv6.lvs.cell 0
      have m1 := lv6.lvs.cell 1
      have f0 := lv6.lvs.free 0
      have f1 := lv6.lvs.free 1
      have LV7 := hide (lv6.setL y2 (by omega) (HNE.out _ (by omega)) (by omega) (by omega))
      clear lv6 b6
      go_wp2_with fail
      exact ⟨⟨k + 1, hlt, by go_num, by rw [HY2.out]; exact LV7.out⟩, by simp [intOf]; omega⟩
    · obtain rfl : k = n := by omega
      have LV := hide lv
      clear lv
      go_wp2_with fail
      obtain ⟨y, hy⟩ : ∃ y, sumC' (mRow M out) k = y := ⟨_, rfl⟩
      rw [hy] at LV
      go_loopw [31] (fun i wr => ∃ c : Nat, c ≤ k ∧ i = .int .i64 (c : Int) ∧ Lv W wr base g cs k vs (outSt k out M c) W.heap.size w2.heap.size #[.int .i64 (F.1 : Int), .int .i64 (F.2 : Int), .slice (some ⟨qo, 0, none⟩) k co] y) (fun i _ => k - (intOf i).toNat)
      case atStart => exact ⟨0, Nat.zero_le _, rfl, by rw [out_zero]; exact LV.out⟩
      case round =>
        clear LV
        obtain ⟨c, hc, rfl, lv⟩ := hrel
        obtain ⟨wi, rfl⟩ : ∃ wi : World, wi = wr := ⟨_, rfl⟩
        by_cases hcl : c < k
        · obtain ⟨_, R1, R2, R3, R4, R5⟩ := HRO.out c hcl
          simp only [hy] at R1 R2 R3 R4 R5
          obtain ⟨qc, cc, hvc, hqc1, hqc2⟩ := HVS.out c hcl
          obtain ⟨s0, s1, s2, sf⟩ := sts_cell lv.st.row hcl
          have ho := lv.st.own c hcl
          rw [hvc] at s2 ho
          obtain ⟨a0, a1, _, _⟩ := frs_cell ho hout
          rw [out_here] at s0 s1 a0 a1
          have l0 := lv.lvs.cell 0
          have l1 := lv.lvs.cell 1
          have HOV := hide (fun w5 => pOverC (hAt M c (out + 1)) y w5 R1)
          have HT0 := hide (fun w5 => pTimesC (partOf out (mRow M c) y) F w5 (by rw [← HF.out]; exact R2))
          have HP0 := hide (fun w5 => pPlusC (hAt M c 0) (timesC (partOf out (mRow M c) y) F) w5 (by rw [← HF.out]; exact R3))
          have HTT := hide (fun t ht hne w5 => pTimesC (partOf out (mRow M c) y) (hAt M out (t + 1)) w5 (R4 t ht hne))
          have HPT := hide (fun t ht hne w5 => pPlusC (hAt M c (t + 1)) (timesC (partOf out (mRow M c) y) (hAt M out (t + 1))) w5 (R5 t ht hne))
          have HPA : Hid (partOf out (mRow M c) y = quoC (hAt M c (out + 1)) y) := rfl
          rw [← HPA.out] at HOV
          have c0 : (0 : Int) ≤ (c : Int) := by omega
          have c1 : (c : Int) < (k : Int) := by omega
          have z5 := lv.lvs.in_
          have z4 := lv.thr.in_
          have zg := lv.st.lt.2
          have zq : qc < wi.heap.size := by omega
          have ng : ¬ (wi.heap.size = g) := by omega
          have nq : ¬ (wi.heap.size = qc) := by omega
          have n5 : ¬ (wi.heap.size = w2.heap.size) := by omega
          have LV := hide lv
          have HVC := hide hvc
          clear lv ho R1 R2 R3 R4 R5 hvc sf
          obtain ⟨pt, hpt⟩ : ∃ pt, partOf out (mRow M c) y = pt := ⟨_, rfl⟩
          rw [hpt] at HOV HT0 HP0 HTT HPT HPA
          obtain ⟨ao, hao⟩ : ∃ ao, hAt M c (out + 1) = ao := ⟨_, rfl⟩
          rw [hao] at HOV a0 a1
          obtain ⟨hd, hhd⟩ : ∃ hd, hAt M c 0 = hd := ⟨_, rfl⟩
          rw [hhd] at HP0 s0 s1
          obtain ⟨tm, htm⟩ : ∃ tm, timesC pt F = tm := ⟨_, rfl⟩
          rw [htm] at HT0 HP0
          obtain ⟨nh, hnh⟩ : ∃ nh, plusC hd tm = nh := ⟨_, rfl⟩
          rw [hnh] at HP0
          have HEQ : Hid (partOf out (mRow M c) y = pt ∧ hAt M c (out + 1) = ao ∧ hAt M c 0 = hd ∧ timesC pt F = tm ∧ plusC hd tm = nh) := ⟨hpt, hao, hhd, htm, hnh⟩
          clear hpt hao hhd htm hnh
          go_wp2_with fail
          go_region_held3 (fun w' => w'.cell? ⟨g, c * 3 + 2, none⟩ = some (.slice (some ⟨qc, 0, none⟩) k cc) ∧ w'.cell? ⟨qc, out * 2, none⟩ = some (.int .i64 (ao.1 : Int)) ∧ w'.cell? ⟨qc, out * 2 + 1, none⟩ = some (.int .i64 (ao.2 : Int)) ∧ w'.cell? ⟨w2.heap.size, 0, none⟩ = some (.int .i64 (y.1 : Int)) ∧ w'.cell? ⟨w2.heap.size, 1, none⟩ = some (.int .i64 (y.2 : Int))) (go_keep)
            (first
              | (go_at_call 39; refine (HOV.out _).mono ?_; rintro e w6 ⟨rfl, b6⟩
                 have lv6 := Lv.below (w := wi.drew) LV.out.drew b6
                 have e2 := (sts_cell lv6.st.row hcl).2.2.1
                 have eo := lv6.st.own c hcl
                 rw [HVC.out] at e2 eo
                 obtain ⟨ea0, ea1, _, _⟩ := frs_cell eo hout
                 rw [out_here, HEQ.out.2.1] at ea0 ea1
                 have el0 := lv6.lvs.cell 0
                 have el1 := lv6.lvs.cell 1
                 have ez := lv6.lvs.in_
                 have ezg := lv6.st.lt.2
                 have ezw := lv6.size
                 have ezq : qc < w6.heap.size := by omega
                 have eng : ¬ (w6.heap.size = g) := by omega
                 have enq : ¬ (w6.heap.size = qc) := by omega
                 have en5 : ¬ (w6.heap.size = w2.heap.size) := by omega
                 have LV6 := hide lv6
                 clear lv6 eo)
              | (go_at_call 39; refine (HOV.out _).mono ?_; rintro e w6 ⟨rfl, b6⟩
                 have lv6 := Lv.below (w := (wi.alloc (.cells #[.int .i64 0, .int .i64 0] 26)).drew) (LV.out.alloc _).drew b6
                 have bx6 := Box.then (w := (wi.alloc (.cells #[.int .i64 0, .int .i64 0] 26)).drew) (Box.new wi 26 #[.int .i64 0, .int .i64 0]) b6
                 have eb0 := bx6.cell 0
                 have eb1 := bx6.cell 1
                 have ef0 := bx6.free 0
                 have ef1 := bx6.free 1
                 have BX6 := hide bx6
                 clear bx6
                 have e2 := (sts_cell lv6.st.row hcl).2.2.1
                 have eo := lv6.st.own c hcl
                 rw [HVC.out] at e2 eo
                 obtain ⟨ea0, ea1, _, _⟩ := frs_cell eo hout
                 rw [out_here, HEQ.out.2.1] at ea0 ea1
                 have el0 := lv6.lvs.cell 0
                 have el1 := lv6.lvs.cell 1
                 have ez := lv6.lvs.in_
                 have ezg := lv6.st.lt.2
                 have ezw := lv6.size
                 have ezq : qc < w6.heap.size := by omega
                 have eng : ¬ (w6.heap.size = g) := by omega
                 have enq : ¬ (w6.heap.size = qc) := by omega
                 have en5 : ¬ (w6.heap.size = w2.heap.size) := by omega
                 have LV6 := hide lv6
                 clear lv6 eo))
          all_goals
            first
              | (have LV7 := hide (LV6.out.alloc (.cells #[.int .i64 (pt.1 : Int), .int .i64 (pt.2 : Int)] 26))
                 have BX7 := hide (Box.new w6 26 #[.int .i64 (pt.1 : Int), .int .i64 (pt.2 : Int)])
                 have hzz := LV6.out.size
                 have z4' := LV6.out.thr.in_
                 clear z4 z5 n5 ng nq
                 obtain ⟨b10, hb10⟩ : ∃ b10, w6.heap.size = b10 := ⟨_, rfl⟩
                 rw [hb10] at BX7 hzz en5 eng enq ez z4'
                 rw [hb10]
                 have z4 := z4'
                 have z5 := ez
                 have n5 := en5
                 have ng := eng
                 have nq := enq
                 clear LV6 LV e2 ea0 ea1 el0 el1 ez ezg ezw ezq eng enq en5 s0 s1 s2 a0 a1 l0 l1 b6 zg zq hb10 z4'
                 generalize w6.alloc (.cells #[.int .i64 (pt.1 : Int), .int .i64 (pt.2 : Int)] 26) = w7 at *)
              | (have hgr := grown_then (grown_setP w6 wi.heap.size 0 (.int .i64 (pt.1 : Int))) (grown_setP (w6.setCell ⟨wi.heap.size, 0, none⟩ (.int .i64 (pt.1 : Int))) wi.heap.size 1 (.int .i64 (pt.2 : Int)))
                 have LV7 := hide (LV6.out.elsewhere hgr (by omega) (HNE.out _ LV.out.size) (by omega) (by omega) (by omega))
                 have BX7 := hide (BX6.out.put2 (.int .i64 (pt.1 : Int)) (.int .i64 (pt.2 : Int)))
                 have hzz := LV.out.size
                 obtain ⟨b10, hb10⟩ : ∃ b10, wi.heap.size = b10 := ⟨_, rfl⟩
                 rw [hb10] at LV7 BX7 hzz n5 ng nq z4 z5
                 rw [hb10]
                 clear LV6 BX6 LV e2 ea0 ea1 el0 el1 ez ezg ezw ezq eng enq en5 eb0 eb1 ef0 ef1 hgr s0 s1 s2 a0 a1 l0 l1 b6 zg zq hb10
                 generalize (w6.setCell ⟨b10, 0, none⟩ (.int .i64 (pt.1 : Int))).setCell ⟨b10, 1, none⟩ (.int .i64 (pt.2 : Int)) = w7 at *)
          all_goals
            have x0 := BX7.out.cell 0
            have x1 := BX7.out.cell 1
            have f0 := LV7.out.thr.cell 0
            have f1 := LV7.out.thr.cell 1
            obtain ⟨s0, s1, s2, sf⟩ := sts_cell LV7.out.st.row hcl
            rw [out_here, HEQ.out.2.2.1] at s0 s1
            have n4 : ¬ (b10 = W.heap.size) := by omega
            have ngw : ¬ (g = W.heap.size) := by omega
            have ng' : ¬ (g = b10) := by omega
            clear sf s2
            go_wp2_with fail
            have ng5 : g ≠ w2.heap.size := by omega
            clear n5 hzz
            have HNH := hide (show plusC (hAt M c 0) (timesC (partOf out (mRow M c) (sumC' (mRow M out) k)) (hAt M out 0)) = nh by rw [HEQ.out.2.2.1, hy, HEQ.out.1, HF.out, HEQ.out.2.2.2.1, HEQ.out.2.2.2.2])
            -- BEGIN R12
            refine wp_region_noPanic ?_
            refine wp_region_held_drew (S := (fun w' => w'.cell? ⟨b10, 0, none⟩ = some (.int .i64 (pt.1 : Int)) ∧ w'.cell? ⟨b10, 1, none⟩ = some (.int .i64 (pt.2 : Int)) ∧ w'.cell? ⟨W.heap.size, 0, none⟩ = some (.int .i64 (F.1 : Int)) ∧ w'.cell? ⟨W.heap.size, 1, none⟩ = some (.int .i64 (F.2 : Int)))) (by kernel_rfl) ⟨x0, x1, f0, f1⟩ (fun hHeld => ?_)
            refine wpAnyH_take (i := 0) (oi := { dst := some 46, op := Go.Op.move (Go.Operand.tmp 9), type := 96, pos := "c10_walk.go:103", after := #[], guard := none }) (v := ?_) rfl (by kernel_rfl) (by kernel_rfl) (by kernel_rfl) (fun _ _ _ h => h) (Or.inl ⟨by rfl, ?_⟩) (by assumption) ?_
            rotate_left
            · (intro w' hSw; obtain ⟨q0, q1, q2, q3⟩ := hSw; go_simp; all_goals with_reducible rfl)
            try simp only [Act.put, List.setIfInBounds_toArray, List.set_cons_zero, List.set_cons_succ]
            refine wpAnyH_take (i := 1) (oi := { dst := some 47, op := Go.Op.move (Go.Operand.tmp 9), type := 96, pos := "c10_walk.go:103", after := #[], guard := none }) (v := ?_) rfl (by kernel_rfl) (by kernel_rfl) (by kernel_rfl) (fun _ _ _ h => h) (Or.inl ⟨by rfl, ?_⟩) (by assumption) ?_
            rotate_left
            · (intro w' hSw; obtain ⟨q0, q1, q2, q3⟩ := hSw; go_simp; all_goals with_reducible rfl)
            try simp only [Act.put, List.setIfInBounds_toArray, List.set_cons_zero, List.set_cons_succ]
            refine wpAnyH_take (i := 2) (oi := { dst := some 48, op := Go.Op.nilCheck (Go.Operand.tmp 47), type := 0, pos := "c10_walk.go:103", after := #[{ on := 1, ground := Go.Ground.data }], guard := none }) (v := ?_) rfl (by kernel_rfl) (by kernel_rfl) (by kernel_rfl) (fun _ _ _ h => h) (Or.inl ⟨by rfl, ?_⟩) (by assumption) ?_
            rotate_left
            · (intro w' hSw; obtain ⟨q0, q1, q2, q3⟩ := hSw; go_simp; all_goals with_reducible rfl)
            try simp only [Act.put, List.setIfInBounds_toArray, List.set_cons_zero, List.set_cons_succ]
            refine wpAnyH_take (i := 3) (oi := { dst := some 49, op := Go.Op.fieldAddr 73 (Go.Operand.tmp 48) 0, type := 0, pos := "c10_walk.go:103", after := #[{ on := 2, ground := Go.Ground.data }], guard := none }) (v := ?_) rfl (by kernel_rfl) (by kernel_rfl) (by kernel_rfl) (fun _ _ _ h => h) (Or.inl ⟨by rfl, ?_⟩) (by assumption) ?_
            rotate_left
            · (intro w' hSw; obtain ⟨q0, q1, q2, q3⟩ := hSw; go_simp; all_goals with_reducible rfl)
            try simp only [Act.put, List.setIfInBounds_toArray, List.set_cons_zero, List.set_cons_succ]
            refine wpAnyH_take (i := 5) (oi := { dst := some 51, op := Go.Op.load 26 (Go.Operand.tmp 10), type := 26, pos := "c10_walk.go:103", after := #[], guard := none }) (v := ?_) rfl (by kernel_rfl) (by kernel_rfl) (by kernel_rfl) (fun _ _ _ h => h) (Or.inl ⟨by rfl, ?_⟩) (by assumption) ?_
            rotate_left
            · (intro w' hSw; obtain ⟨q0, q1, q2, q3⟩ := hSw; go_simp; all_goals with_reducible rfl)
            try simp only [Act.put, List.setIfInBounds_toArray, List.set_cons_zero, List.set_cons_succ]
            refine wpAnyH_take (i := 6) (oi := { dst := some 52, op := Go.Op.fieldAddr 73 (Go.Operand.tmp 4) 0, type := 0, pos := "c10_walk.go:103", after := #[], guard := none }) (v := ?_) rfl (by kernel_rfl) (by kernel_rfl) (by kernel_rfl) (fun _ _ _ h => h) (Or.inl ⟨by rfl, ?_⟩) (by assumption) ?_
            rotate_left
            · (intro w' hSw; obtain ⟨q0, q1, q2, q3⟩ := hSw; go_simp; all_goals with_reducible rfl)
            try simp only [Act.put, List.setIfInBounds_toArray, List.set_cons_zero, List.set_cons_succ]
            refine wpAnyH_take (i := 7) (oi := { dst := some 53, op := Go.Op.load 26 (Go.Operand.tmp 52), type := 26, pos := "c10_walk.go:103", after := #[{ on := 6, ground := Go.Ground.data }], guard := none }) (v := ?_) rfl (by kernel_rfl) (by kernel_rfl) (by kernel_rfl) (fun _ _ _ h => h) (Or.inl ⟨by rfl, ?_⟩) (by assumption) ?_
            rotate_left
            · (intro w' hSw; obtain ⟨q0, q1, q2, q3⟩ := hSw; go_simp; all_goals with_reducible rfl)
            try simp only [Act.put, List.setIfInBounds_toArray, List.set_cons_zero, List.set_cons_succ]
            refine wpAnyH_ready (rs := [4, 8]) (by kernel_rfl) (by simp) ?_
            refine AllReadyH.cons (o := { dst := some 50, op := Go.Op.load 26 (Go.Operand.tmp 49), type := 26, pos := "c10_walk.go:103", after := #[{ on := 3, ground := Go.Ground.data }], guard := none }) rfl (fun K hK => ?_) (AllReadyH.cons (o := { dst := some 54, op := Go.Op.call { callee := Go.Callee.value (Go.Operand.func 60), args := #[Go.Operand.tmp 51, Go.Operand.tmp 53], argTypes := #[26, 26] }, type := 26, pos := "c10_walk.go:103", after := #[{ on := 5, ground := Go.Ground.data }, { on := 7, ground := Go.Ground.data }], guard := none }) rfl (fun K hK => ?_) AllReadyH.nil)
            rotate_left
            all_goals first
              | (go_simp
                 go_at_call 60
                 refine (HT0.out _).mono ?_
                 rintro e w8 ⟨rfl, b8⟩
                 have LV8 := hide (Lv.below (w := w7.drew) LV7.out.drew b8)
                 have BX8 := hide (Box.then (w := w7.drew) BX7.out b8)
                 have x0 := BX8.out.cell 0
                 have x1 := BX8.out.cell 1
                 have f0 := LV8.out.thr.cell 0
                 have f1 := LV8.out.thr.cell 1
                 obtain ⟨s0, s1, s2, sf⟩ := sts_cell LV8.out.st.row hcl
                 rw [out_here, HEQ.out.2.2.1] at s0 s1
                 clear sf s2 b8
                 try go_wp2_with fail
                 refine hK.out _ _ ?_ (fun hHeld => ?_)
                 · exact ⟨x0, x1, f0, f1⟩
                 clear hK K
                 try simp only [Act.put, List.setIfInBounds_toArray, List.set_cons_zero, List.set_cons_succ]
                 refine wpAnyH_ready (rs := [4]) (by kernel_rfl) (by simp) ?_
                 refine AllReadyH.cons (o := { dst := some 50, op := Go.Op.load 26 (Go.Operand.tmp 49), type := 26, pos := "c10_walk.go:103", after := #[{ on := 3, ground := Go.Ground.data }], guard := none }) rfl (fun K hK => ?_) AllReadyH.nil
                 go_simp
                 refine hK.out _ _ ?_ (fun hHeld => ?_)
                 · exact hHeld
                 clear hK K
                 try simp only [Act.put, List.setIfInBounds_toArray, List.set_cons_zero, List.set_cons_succ]
                 refine wpAnyH_ready (rs := [9]) (by kernel_rfl) (by simp) ?_
                 refine AllReadyH.cons (o := { dst := some 55, op := Go.Op.call { callee := Go.Callee.value (Go.Operand.func 59), args := #[Go.Operand.tmp 50, Go.Operand.tmp 54], argTypes := #[26, 26] }, type := 26, pos := "c10_walk.go:103", after := #[{ on := 4, ground := Go.Ground.data }, { on := 8, ground := Go.Ground.data }, { on := 8, ground := Go.Ground.chain }], guard := none }) rfl (fun K hK => ?_) AllReadyH.nil
                 go_simp
                 go_at_call 59
                 refine (HP0.out _).mono ?_
                 rintro e w9 ⟨rfl, b9⟩
                 have LV9 := hide (LV8.out.below b9)
                 have BX9 := hide (BX8.out.then b9)
                 have x0 := BX9.out.cell 0
                 have x1 := BX9.out.cell 1
                 have f0 := LV9.out.thr.cell 0
                 have f1 := LV9.out.thr.cell 1
                 obtain ⟨s0, s1, s2, sf⟩ := sts_cell LV9.out.st.row hcl
                 rw [out_here, HEQ.out.2.2.1] at s0 s1
                 have sf0 := sf (c * 3)
                 have sf1 := sf (c * 3 + 1)
                 clear sf s2 b9
                 try go_wp2_with fail
                 refine hK.out _ _ ?_ (fun hHeld => ?_)
                 · exact ⟨x0, x1, f0, f1⟩
                 clear hK K
                 try simp only [Act.put, List.setIfInBounds_toArray, List.set_cons_zero, List.set_cons_succ]
                 refine wpAnyH_take (i := 10) (oi := { dst := some 56, op := Go.Op.nilCheck (Go.Operand.tmp 46), type := 0, pos := "c10_walk.go:103", after := #[{ on := 0, ground := Go.Ground.data }, { on := 0, ground := Go.Ground.phase }, { on := 1, ground := Go.Ground.phase }, { on := 2, ground := Go.Ground.phase }, { on := 3, ground := Go.Ground.phase }, { on := 4, ground := Go.Ground.phase }, { on := 5, ground := Go.Ground.phase }, { on := 6, ground := Go.Ground.phase }, { on := 7, ground := Go.Ground.phase }, { on := 8, ground := Go.Ground.phase }, { on := 9, ground := Go.Ground.phase }], guard := none }) (v := ?_) rfl (by kernel_rfl) (by kernel_rfl) (by kernel_rfl) (fun _ _ _ h => h) (Or.inl ⟨by rfl, ?_⟩) (by assumption) ?_
                 rotate_left
                 · (intro w' hSw; obtain ⟨q0, q1, q2, q3⟩ := hSw; go_simp; all_goals with_reducible rfl)
                 try simp only [Act.put, List.setIfInBounds_toArray, List.set_cons_zero, List.set_cons_succ]
                 refine wpAnyH_take (i := 11) (oi := { dst := some 57, op := Go.Op.fieldAddr 73 (Go.Operand.tmp 56) 0, type := 0, pos := "c10_walk.go:103", after := #[{ on := 10, ground := Go.Ground.data }, { on := 0, ground := Go.Ground.phase }, { on := 1, ground := Go.Ground.phase }, { on := 2, ground := Go.Ground.phase }, { on := 3, ground := Go.Ground.phase }, { on := 4, ground := Go.Ground.phase }, { on := 5, ground := Go.Ground.phase }, { on := 6, ground := Go.Ground.phase }, { on := 7, ground := Go.Ground.phase }, { on := 8, ground := Go.Ground.phase }, { on := 9, ground := Go.Ground.phase }], guard := none }) (v := ?_) rfl (by kernel_rfl) (by kernel_rfl) (by kernel_rfl) (fun _ _ _ h => h) (Or.inl ⟨by rfl, ?_⟩) (by assumption) ?_
                 rotate_left
                 · (intro w' hSw; obtain ⟨q0, q1, q2, q3⟩ := hSw; go_simp; all_goals with_reducible rfl)
                 try simp only [Act.put, List.setIfInBounds_toArray, List.set_cons_zero, List.set_cons_succ]
                 refine wpAnyH_ready (rs := [12]) (by kernel_rfl) (by simp) ?_
                 refine AllReadyH.cons (o := { dst := none, op := Go.Op.store 26 (Go.Operand.tmp 57) (Go.Operand.tmp 55), type := 0, pos := "c10_walk.go:103", after := #[{ on := 11, ground := Go.Ground.data }, { on := 9, ground := Go.Ground.data }, { on := 9, ground := Go.Ground.chain }, { on := 0, ground := Go.Ground.phase }, { on := 1, ground := Go.Ground.phase }, { on := 2, ground := Go.Ground.phase }, { on := 3, ground := Go.Ground.phase }, { on := 4, ground := Go.Ground.phase }, { on := 5, ground := Go.Ground.phase }, { on := 6, ground := Go.Ground.phase }, { on := 7, ground := Go.Ground.phase }, { on := 8, ground := Go.Ground.phase }, { on := 9, ground := Go.Ground.phase }], guard := none }) rfl (fun K hK => ?_) AllReadyH.nil
                 have LVA := LV9.out.put hcl nh ngw ng5
                 have BXA := hide (BX9.out.grown (LV9.out.st.put hcl nh).2 (fun e => ng' (by injection e)))
                 rw [show (fun a b => if a = c ∧ b = 0 then nh else outSt k out M c a b) = inSt k out M c 0 by rw [← HNH.out]; exact out_head c] at LVA
                 have LVA := hide LVA
                 go_simp
                 refine hK.out _ _ ?_ (fun hHeld => ?_)
                 · exact ⟨BXA.out.cell 0, BXA.out.cell 1, LVA.out.thr.cell 0, LVA.out.thr.cell 1⟩
                 clear hK K
                 try simp only [Act.put, List.setIfInBounds_toArray, List.set_cons_zero, List.set_cons_succ]
                 refine wpAnyH_done (by kernel_rfl) ?_ _)
              | (go_simp
                 refine hK.out _ _ ?_ (fun hHeld => ?_)
                 · exact hHeld
                 clear hK K
                 try simp only [Act.put, List.setIfInBounds_toArray, List.set_cons_zero, List.set_cons_succ]
                 refine wpAnyH_ready (rs := [8]) (by kernel_rfl) (by simp) ?_
                 refine AllReadyH.cons (o := { dst := some 54, op := Go.Op.call { callee := Go.Callee.value (Go.Operand.func 60), args := #[Go.Operand.tmp 51, Go.Operand.tmp 53], argTypes := #[26, 26] }, type := 26, pos := "c10_walk.go:103", after := #[{ on := 5, ground := Go.Ground.data }, { on := 7, ground := Go.Ground.data }], guard := none }) rfl (fun K hK => ?_) AllReadyH.nil
                 go_simp
                 go_at_call 60
                 refine (HT0.out _).mono ?_
                 rintro e w8 ⟨rfl, b8⟩
                 have LV8 := hide (Lv.below (w := w7.drew) LV7.out.drew b8)
                 have BX8 := hide (Box.then (w := w7.drew) BX7.out b8)
                 have x0 := BX8.out.cell 0
                 have x1 := BX8.out.cell 1
                 have f0 := LV8.out.thr.cell 0
                 have f1 := LV8.out.thr.cell 1
                 obtain ⟨s0, s1, s2, sf⟩ := sts_cell LV8.out.st.row hcl
                 rw [out_here, HEQ.out.2.2.1] at s0 s1
                 clear sf s2 b8
                 try go_wp2_with fail
                 refine hK.out _ _ ?_ (fun hHeld => ?_)
                 · exact ⟨x0, x1, f0, f1⟩
                 clear hK K
                 try simp only [Act.put, List.setIfInBounds_toArray, List.set_cons_zero, List.set_cons_succ]
                 refine wpAnyH_ready (rs := [9]) (by kernel_rfl) (by simp) ?_
                 refine AllReadyH.cons (o := { dst := some 55, op := Go.Op.call { callee := Go.Callee.value (Go.Operand.func 59), args := #[Go.Operand.tmp 50, Go.Operand.tmp 54], argTypes := #[26, 26] }, type := 26, pos := "c10_walk.go:103", after := #[{ on := 4, ground := Go.Ground.data }, { on := 8, ground := Go.Ground.data }, { on := 8, ground := Go.Ground.chain }], guard := none }) rfl (fun K hK => ?_) AllReadyH.nil
                 go_simp
                 go_at_call 59
                 refine (HP0.out _).mono ?_
                 rintro e w9 ⟨rfl, b9⟩
                 have LV9 := hide (LV8.out.below b9)
                 have BX9 := hide (BX8.out.then b9)
                 have x0 := BX9.out.cell 0
                 have x1 := BX9.out.cell 1
                 have f0 := LV9.out.thr.cell 0
                 have f1 := LV9.out.thr.cell 1
                 obtain ⟨s0, s1, s2, sf⟩ := sts_cell LV9.out.st.row hcl
                 rw [out_here, HEQ.out.2.2.1] at s0 s1
                 have sf0 := sf (c * 3)
                 have sf1 := sf (c * 3 + 1)
                 clear sf s2 b9
                 try go_wp2_with fail
                 refine hK.out _ _ ?_ (fun hHeld => ?_)
                 · exact ⟨x0, x1, f0, f1⟩
                 clear hK K
                 try simp only [Act.put, List.setIfInBounds_toArray, List.set_cons_zero, List.set_cons_succ]
                 refine wpAnyH_take (i := 10) (oi := { dst := some 56, op := Go.Op.nilCheck (Go.Operand.tmp 46), type := 0, pos := "c10_walk.go:103", after := #[{ on := 0, ground := Go.Ground.data }, { on := 0, ground := Go.Ground.phase }, { on := 1, ground := Go.Ground.phase }, { on := 2, ground := Go.Ground.phase }, { on := 3, ground := Go.Ground.phase }, { on := 4, ground := Go.Ground.phase }, { on := 5, ground := Go.Ground.phase }, { on := 6, ground := Go.Ground.phase }, { on := 7, ground := Go.Ground.phase }, { on := 8, ground := Go.Ground.phase }, { on := 9, ground := Go.Ground.phase }], guard := none }) (v := ?_) rfl (by kernel_rfl) (by kernel_rfl) (by kernel_rfl) (fun _ _ _ h => h) (Or.inl ⟨by rfl, ?_⟩) (by assumption) ?_
                 rotate_left
                 · (intro w' hSw; obtain ⟨q0, q1, q2, q3⟩ := hSw; go_simp; all_goals with_reducible rfl)
                 try simp only [Act.put, List.setIfInBounds_toArray, List.set_cons_zero, List.set_cons_succ]
                 refine wpAnyH_take (i := 11) (oi := { dst := some 57, op := Go.Op.fieldAddr 73 (Go.Operand.tmp 56) 0, type := 0, pos := "c10_walk.go:103", after := #[{ on := 10, ground := Go.Ground.data }, { on := 0, ground := Go.Ground.phase }, { on := 1, ground := Go.Ground.phase }, { on := 2, ground := Go.Ground.phase }, { on := 3, ground := Go.Ground.phase }, { on := 4, ground := Go.Ground.phase }, { on := 5, ground := Go.Ground.phase }, { on := 6, ground := Go.Ground.phase }, { on := 7, ground := Go.Ground.phase }, { on := 8, ground := Go.Ground.phase }, { on := 9, ground := Go.Ground.phase }], guard := none }) (v := ?_) rfl (by kernel_rfl) (by kernel_rfl) (by kernel_rfl) (fun _ _ _ h => h) (Or.inl ⟨by rfl, ?_⟩) (by assumption) ?_
                 rotate_left
                 · (intro w' hSw; obtain ⟨q0, q1, q2, q3⟩ := hSw; go_simp; all_goals with_reducible rfl)
                 try simp only [Act.put, List.setIfInBounds_toArray, List.set_cons_zero, List.set_cons_succ]
                 refine wpAnyH_ready (rs := [12]) (by kernel_rfl) (by simp) ?_
                 refine AllReadyH.cons (o := { dst := none, op := Go.Op.store 26 (Go.Operand.tmp 57) (Go.Operand.tmp 55), type := 0, pos := "c10_walk.go:103", after := #[{ on := 11, ground := Go.Ground.data }, { on := 9, ground := Go.Ground.data }, { on := 9, ground := Go.Ground.chain }, { on := 0, ground := Go.Ground.phase }, { on := 1, ground := Go.Ground.phase }, { on := 2, ground := Go.Ground.phase }, { on := 3, ground := Go.Ground.phase }, { on := 4, ground := Go.Ground.phase }, { on := 5, ground := Go.Ground.phase }, { on := 6, ground := Go.Ground.phase }, { on := 7, ground := Go.Ground.phase }, { on := 8, ground := Go.Ground.phase }, { on := 9, ground := Go.Ground.phase }], guard := none }) rfl (fun K hK => ?_) AllReadyH.nil
                 have LVA := LV9.out.put hcl nh ngw ng5
                 have BXA := hide (BX9.out.grown (LV9.out.st.put hcl nh).2 (fun e => ng' (by injection e)))
                 rw [show (fun a b => if a = c ∧ b = 0 then nh else outSt k out M c a b) = inSt k out M c 0 by rw [← HNH.out]; exact out_head c] at LVA
                 have LVA := hide LVA
                 go_simp
                 refine hK.out _ _ ?_ (fun hHeld => ?_)
                 · exact ⟨BXA.out.cell 0, BXA.out.cell 1, LVA.out.thr.cell 0, LVA.out.thr.cell 1⟩
                 clear hK K
                 try simp only [Act.put, List.setIfInBounds_toArray, List.set_cons_zero, List.set_cons_succ]
                 refine wpAnyH_done (by kernel_rfl) ?_ _)
            -- END R12
          all_goals
            refine NoPanic.normal ?_
            have s2 := (sts_cell LVA.out.st.row hcl).2.2.1
            rw [HVC.out] at s2
            clear x0 x1 f0 f1 s0 s1 sf0 sf1 LV9 BX9 LV8 BX8 LV7 BX7 HT0 HP0 HNH hHeld
            generalize (w9.setCell ⟨g, c * 3, none⟩ (.int .i64 (nh.1 : Int))).setCell ⟨g, c * 3 + 1, none⟩ (.int .i64 (nh.2 : Int)) = wa at *
            go_wp2_with fail
            go_loopw [63] (fun i wr => ∃ t : Nat, t ≤ k ∧ i = .int .i64 (t : Int) ∧ Lv W wr base g cs k vs (inSt k out M c t) W.heap.size w2.heap.size #[.int .i64 (F.1 : Int), .int .i64 (F.2 : Int), .slice (some ⟨qo, 0, none⟩) k co] y ∧ Box wr b10 26 #[.int .i64 (pt.1 : Int), .int .i64 (pt.2 : Int)]) (fun i _ => k - (intOf i).toNat)
            case atStart => exact ⟨0, Nat.zero_le _, rfl, LVA.out, BXA.out⟩
            case round =>
              clear LVA BXA s2
              obtain ⟨t, ht, rfl, lv, bx⟩ := hrel
              obtain ⟨wt, rfl⟩ : ∃ wt : World, wt = wr := ⟨_, rfl⟩
              by_cases htk : t < k
              · have ho := lv.st.own c hcl
                rw [HVC.out] at ho
                obtain ⟨a0, a1, _, _⟩ := frs_cell ho htk
                rw [in_here] at a0 a1
                obtain ⟨ar, har⟩ : ∃ ar, hAt M c (t + 1) = ar := ⟨_, rfl⟩
                rw [har] at a0 a1
                have t0 : (0 : Int) ≤ (t : Int) := by omega
                have t1 : (t : Int) < (k : Int) := by omega
                have LV := hide lv
                have BX := hide bx
                clear lv bx ho
                by_cases htc : t = c
                · have hne : ((t : Int) != (c : Int)) = false := by rw [htc]; simp
                  have HTC := hide htc
                  clear htc
                  go_wp2_with fail
                  exact ⟨⟨t + 1, htk, by go_num, by have h := (LV.out.alloc (.cells #[.int .i64 (ar.1 : Int), .int .i64 (ar.2 : Int)] 26)); rw [HTC.out] at h ⊢; rw [← in_skip]; exact h, BX.out.alloc _⟩, by simp [intOf]; omega⟩
                · have hne : ((t : Int) != (c : Int)) = true := by rw [bne_iff_ne]; omega
                  have HTC := hide htc
                  clear htc
                  go_wp2_with fail
                  have LV7 := hide (LV.out.alloc (.cells #[.int .i64 (ar.1 : Int), .int .i64 (ar.2 : Int)] 26))
                  have BX7 := hide (BX.out.alloc (.cells #[.int .i64 (ar.1 : Int), .int .i64 (ar.2 : Int)] 26))
                  have BR7 := hide (Box.new wt 26 #[.int .i64 (ar.1 : Int), .int .i64 (ar.2 : Int)])
                  have hzt := LV.out.size
                  have nq2 : ¬ (qc = wt.heap.size) := by omega
                  obtain ⟨b12, hb12⟩ : ∃ b12, wt.heap.size = b12 := ⟨_, rfl⟩
                  rw [hb12] at BR7 nq2
                  rw [hb12]
                  clear a0 a1 LV BX hzt hb12
                  generalize wt.alloc (.cells #[.int .i64 (ar.1 : Int), .int .i64 (ar.2 : Int)] 26) = w7 at *
                  have s2 := (sts_cell LV7.out.st.row hcl).2.2.1
                  have hco := LV7.out.st.own out hout
                  rw [HVC.out] at s2
                  rw [hvo] at hco
                  obtain ⟨u0, u1, _, _⟩ := frs_cell hco htk
                  rw [in_thr HOK.out hout] at u0 u1
                  have r0 := BR7.out.cell 0
                  have r1 := BR7.out.cell 1
                  have x0 := BX7.out.cell 0
                  have x1 := BX7.out.cell 1
                  have f2 := LV7.out.thr.cell 2
                  have HTT1 := hide (fun w5 => HTT.out t htk HTC.out w5)
                  have HPT1 := hide (fun w5 => HPT.out t htk HTC.out w5)
                  have htc := HTC.out
                  have nq : ¬ (qc = b10) := by omega
                  have nqg : ¬ (qc = g) := fun e => own_ty2 (LV7.out.st.own c hcl) LV7.out.st.row (by decide) (g := g) rfl (by rw [HVC.out, ← e]; rfl)
                  have nqw : ¬ (qc = W.heap.size) := by omega
                  obtain ⟨th, hth⟩ : ∃ th, hAt M out (t + 1) = th := ⟨_, rfl⟩
                  rw [hth] at HTT1 HPT1 u0 u1
                  rw [har] at HPT1
                  obtain ⟨tt, htt⟩ : ∃ tt, timesC pt th = tt := ⟨_, rfl⟩
                  rw [htt] at HTT1 HPT1
                  obtain ⟨nt, hnt⟩ : ∃ nt, plusC ar tt = nt := ⟨_, rfl⟩
                  rw [hnt] at HPT1
                  have HNT := hide (show plusC (hAt M c (t + 1)) (timesC (partOf out (mRow M c) (sumC' (mRow M out) k)) (hAt M out (t + 1))) = nt by rw [har, hy, HEQ.out.1, hth, htt, hnt])
                  clear hco hth htt hnt har
                  -- BEGIN R17
                  refine wp_region_noPanic ?_
                  refine wp_region_held_drew (S := (fun w' => w'.cell? ⟨g, c * 3 + 2, none⟩ = some (.slice (some ⟨qc, 0, none⟩) k cc) ∧ w'.cell? ⟨b12, 0, none⟩ = some (.int .i64 (ar.1 : Int)) ∧ w'.cell? ⟨b12, 1, none⟩ = some (.int .i64 (ar.2 : Int)) ∧ w'.cell? ⟨b10, 0, none⟩ = some (.int .i64 (pt.1 : Int)) ∧ w'.cell? ⟨b10, 1, none⟩ = some (.int .i64 (pt.2 : Int)) ∧ w'.cell? ⟨W.heap.size, 2, none⟩ = some (.slice (some ⟨qo, 0, none⟩) k co))) (by kernel_rfl) ⟨s2, r0, r1, x0, x1, f2⟩ (fun hHeld => ?_)
                  refine wpAnyH_take (i := 0) (oi := { dst := some 71, op := Go.Op.move (Go.Operand.tmp 9), type := 96, pos := "c10_walk.go:107", after := #[], guard := none }) (v := ?_) rfl (by kernel_rfl) (by kernel_rfl) (by kernel_rfl) (fun _ _ _ h => h) (Or.inl ⟨by rfl, ?_⟩) (by assumption) ?_
                  rotate_left
                  · (intro w' hSw; obtain ⟨q0, q1, q2, q3, q4, q5⟩ := hSw; go_simp; all_goals with_reducible rfl)
                  try simp only [Act.put, List.setIfInBounds_toArray, List.set_cons_zero, List.set_cons_succ]
                  refine wpAnyH_take (i := 1) (oi := { dst := some 72, op := Go.Op.nilCheck (Go.Operand.tmp 71), type := 0, pos := "c10_walk.go:107", after := #[{ on := 0, ground := Go.Ground.data }], guard := none }) (v := ?_) rfl (by kernel_rfl) (by kernel_rfl) (by kernel_rfl) (fun _ _ _ h => h) (Or.inl ⟨by rfl, ?_⟩) (by assumption) ?_
                  rotate_left
                  · (intro w' hSw; obtain ⟨q0, q1, q2, q3, q4, q5⟩ := hSw; go_simp; all_goals with_reducible rfl)
                  try simp only [Act.put, List.setIfInBounds_toArray, List.set_cons_zero, List.set_cons_succ]
                  refine wpAnyH_take (i := 2) (oi := { dst := some 73, op := Go.Op.fieldAddr 73 (Go.Operand.tmp 72) 1, type := 0, pos := "c10_walk.go:107", after := #[{ on := 1, ground := Go.Ground.data }], guard := none }) (v := ?_) rfl (by kernel_rfl) (by kernel_rfl) (by kernel_rfl) (fun _ _ _ h => h) (Or.inl ⟨by rfl, ?_⟩) (by assumption) ?_
                  rotate_left
                  · (intro w' hSw; obtain ⟨q0, q1, q2, q3, q4, q5⟩ := hSw; go_simp; all_goals with_reducible rfl)
                  try simp only [Act.put, List.setIfInBounds_toArray, List.set_cons_zero, List.set_cons_succ]
                  refine wpAnyH_take (i := 3) (oi := { dst := some 74, op := Go.Op.load 45 (Go.Operand.tmp 73), type := 45, pos := "c10_walk.go:107", after := #[{ on := 2, ground := Go.Ground.data }], guard := none }) (v := ?_) rfl (by kernel_rfl) (by kernel_rfl) (by kernel_rfl) (fun _ _ _ h => h) (Or.inl ⟨by rfl, ?_⟩) (by assumption) ?_
                  rotate_left
                  · (intro w' hSw; obtain ⟨q0, q1, q2, q3, q4, q5⟩ := hSw; go_simp; all_goals with_reducible rfl)
                  try simp only [Act.put, List.setIfInBounds_toArray, List.set_cons_zero, List.set_cons_succ]
                  refine wpAnyH_take (i := 4) (oi := { dst := some 75, op := Go.Op.move (Go.Operand.tmp 11), type := 3, pos := "c10_walk.go:107", after := #[], guard := none }) (v := ?_) rfl (by kernel_rfl) (by kernel_rfl) (by kernel_rfl) (fun _ _ _ h => h) (Or.inl ⟨by rfl, ?_⟩) (by assumption) ?_
                  rotate_left
                  · (intro w' hSw; obtain ⟨q0, q1, q2, q3, q4, q5⟩ := hSw; go_simp; all_goals with_reducible rfl)
                  try simp only [Act.put, List.setIfInBounds_toArray, List.set_cons_zero, List.set_cons_succ]
                  refine wpAnyH_take (i := 5) (oi := { dst := some 76, op := Go.Op.load 26 (Go.Operand.tmp 12), type := 26, pos := "c10_walk.go:107", after := #[], guard := none }) (v := ?_) rfl (by kernel_rfl) (by kernel_rfl) (by kernel_rfl) (fun _ _ _ h => h) (Or.inl ⟨by rfl, ?_⟩) (by assumption) ?_
                  rotate_left
                  · (intro w' hSw; obtain ⟨q0, q1, q2, q3, q4, q5⟩ := hSw; go_simp; all_goals with_reducible rfl)
                  try simp only [Act.put, List.setIfInBounds_toArray, List.set_cons_zero, List.set_cons_succ]
                  refine wpAnyH_take (i := 6) (oi := { dst := some 77, op := Go.Op.load 26 (Go.Operand.tmp 10), type := 26, pos := "c10_walk.go:107", after := #[], guard := none }) (v := ?_) rfl (by kernel_rfl) (by kernel_rfl) (by kernel_rfl) (fun _ _ _ h => h) (Or.inl ⟨by rfl, ?_⟩) (by assumption) ?_
                  rotate_left
                  · (intro w' hSw; obtain ⟨q0, q1, q2, q3, q4, q5⟩ := hSw; go_simp; all_goals with_reducible rfl)
                  try simp only [Act.put, List.setIfInBounds_toArray, List.set_cons_zero, List.set_cons_succ]
                  refine wpAnyH_take (i := 7) (oi := { dst := some 78, op := Go.Op.fieldAddr 73 (Go.Operand.tmp 4) 1, type := 0, pos := "c10_walk.go:107", after := #[], guard := none }) (v := ?_) rfl (by kernel_rfl) (by kernel_rfl) (by kernel_rfl) (fun _ _ _ h => h) (Or.inl ⟨by rfl, ?_⟩) (by assumption) ?_
                  rotate_left
                  · (intro w' hSw; obtain ⟨q0, q1, q2, q3, q4, q5⟩ := hSw; go_simp; all_goals with_reducible rfl)
                  try simp only [Act.put, List.setIfInBounds_toArray, List.set_cons_zero, List.set_cons_succ]
                  refine wpAnyH_take (i := 8) (oi := { dst := some 79, op := Go.Op.load 45 (Go.Operand.tmp 78), type := 45, pos := "c10_walk.go:107", after := #[{ on := 7, ground := Go.Ground.data }], guard := none }) (v := ?_) rfl (by kernel_rfl) (by kernel_rfl) (by kernel_rfl) (fun _ _ _ h => h) (Or.inl ⟨by rfl, ?_⟩) (by assumption) ?_
                  rotate_left
                  · (intro w' hSw; obtain ⟨q0, q1, q2, q3, q4, q5⟩ := hSw; go_simp; all_goals with_reducible rfl)
                  try simp only [Act.put, List.setIfInBounds_toArray, List.set_cons_zero, List.set_cons_succ]
                  refine wpAnyH_take (i := 9) (oi := { dst := some 80, op := Go.Op.move (Go.Operand.tmp 11), type := 3, pos := "c10_walk.go:107", after := #[], guard := none }) (v := ?_) rfl (by kernel_rfl) (by kernel_rfl) (by kernel_rfl) (fun _ _ _ h => h) (Or.inl ⟨by rfl, ?_⟩) (by assumption) ?_
                  rotate_left
                  · (intro w' hSw; obtain ⟨q0, q1, q2, q3, q4, q5⟩ := hSw; go_simp; all_goals with_reducible rfl)
                  try simp only [Act.put, List.setIfInBounds_toArray, List.set_cons_zero, List.set_cons_succ]
                  refine wpAnyH_take (i := 10) (oi := { dst := some 81, op := Go.Op.indexAddr 45 (Go.Operand.tmp 79) (Go.Operand.tmp 80), type := 0, pos := "c10_walk.go:107", after := #[{ on := 8, ground := Go.Ground.data }, { on := 9, ground := Go.Ground.data }], guard := none }) (v := ?_) rfl (by kernel_rfl) (by kernel_rfl) (by kernel_rfl) (fun _ _ _ h => h) (Or.inl ⟨by rfl, ?_⟩) (by assumption) ?_
                  rotate_left
                  · (intro w' hSw; obtain ⟨q0, q1, q2, q3, q4, q5⟩ := hSw; go_simp; all_goals with_reducible rfl)
                  try simp only [Act.put, List.setIfInBounds_toArray, List.set_cons_zero, List.set_cons_succ]
                  refine wpAnyH_ready (rs := [11]) (by kernel_rfl) (by simp) ?_
                  refine AllReadyH.cons (o := { dst := some 82, op := Go.Op.load 26 (Go.Operand.tmp 81), type := 26, pos := "c10_walk.go:107", after := #[{ on := 10, ground := Go.Ground.data }], guard := none }) rfl (fun K hK => ?_) AllReadyH.nil
                  go_simp
                  refine hK.out _ _ ?_ (fun hHeld => ?_)
                  · exact hHeld
                  clear hK K
                  try simp only [Act.put, List.setIfInBounds_toArray, List.set_cons_zero, List.set_cons_succ]
                  refine wpAnyH_ready (rs := [12]) (by kernel_rfl) (by simp) ?_
                  refine AllReadyH.cons (o := { dst := some 83, op := Go.Op.call { callee := Go.Callee.value (Go.Operand.func 60), args := #[Go.Operand.tmp 77, Go.Operand.tmp 82], argTypes := #[26, 26] }, type := 26, pos := "c10_walk.go:107", after := #[{ on := 6, ground := Go.Ground.data }, { on := 11, ground := Go.Ground.data }], guard := none }) rfl (fun K hK => ?_) AllReadyH.nil
                  go_simp
                  go_at_call 60
                  refine (HTT1.out _).mono ?_
                  rintro e w8 ⟨rfl, b8⟩
                  have LV8 := hide (Lv.below (w := w7.drew) LV7.out.drew b8)
                  have BX8 := hide (Box.then (w := w7.drew) BX7.out b8)
                  have BR8 := hide (Box.then (w := w7.drew) BR7.out b8)
                  have s2 := (sts_cell LV8.out.st.row hcl).2.2.1
                  rw [HVC.out] at s2
                  have r0 := BR8.out.cell 0
                  have r1 := BR8.out.cell 1
                  have x0 := BX8.out.cell 0
                  have x1 := BX8.out.cell 1
                  have f2 := LV8.out.thr.cell 2
                  clear b8
                  try go_wp2_with fail
                  refine hK.out _ _ ?_ (fun hHeld => ?_)
                  · exact ⟨s2, r0, r1, x0, x1, f2⟩
                  clear hK K
                  try simp only [Act.put, List.setIfInBounds_toArray, List.set_cons_zero, List.set_cons_succ]
                  refine wpAnyH_ready (rs := [13]) (by kernel_rfl) (by simp) ?_
                  refine AllReadyH.cons (o := { dst := some 84, op := Go.Op.call { callee := Go.Callee.value (Go.Operand.func 59), args := #[Go.Operand.tmp 76, Go.Operand.tmp 83], argTypes := #[26, 26] }, type := 26, pos := "c10_walk.go:107", after := #[{ on := 5, ground := Go.Ground.data }, { on := 12, ground := Go.Ground.data }, { on := 12, ground := Go.Ground.chain }], guard := none }) rfl (fun K hK => ?_) AllReadyH.nil
                  go_simp
                  go_at_call 59
                  refine (HPT1.out _).mono ?_
                  rintro e w9 ⟨rfl, b9⟩
                  have LV9 := hide (LV8.out.below b9)
                  have BX9 := hide (BX8.out.then b9)
                  have BR9 := hide (BR8.out.then b9)
                  have s2 := (sts_cell LV9.out.st.row hcl).2.2.1
                  rw [HVC.out] at s2
                  have r0 := BR9.out.cell 0
                  have r1 := BR9.out.cell 1
                  have x0 := BX9.out.cell 0
                  have x1 := BX9.out.cell 1
                  have f2 := LV9.out.thr.cell 2
                  have eo := LV9.out.st.own c hcl
                  rw [HVC.out] at eo
                  obtain ⟨e0, e1, ef0, ef1⟩ := frs_cell eo htk
                  clear b9 eo
                  try go_wp2_with fail
                  refine hK.out _ _ ?_ (fun hHeld => ?_)
                  · exact ⟨s2, r0, r1, x0, x1, f2⟩
                  clear hK K
                  try simp only [Act.put, List.setIfInBounds_toArray, List.set_cons_zero, List.set_cons_succ]
                  refine wpAnyH_take (i := 14) (oi := { dst := some 85, op := Go.Op.indexAddr 45 (Go.Operand.tmp 74) (Go.Operand.tmp 75), type := 0, pos := "c10_walk.go:107", after := #[{ on := 3, ground := Go.Ground.data }, { on := 4, ground := Go.Ground.data }, { on := 0, ground := Go.Ground.phase }, { on := 1, ground := Go.Ground.phase }, { on := 2, ground := Go.Ground.phase }, { on := 3, ground := Go.Ground.phase }, { on := 4, ground := Go.Ground.phase }, { on := 5, ground := Go.Ground.phase }, { on := 6, ground := Go.Ground.phase }, { on := 7, ground := Go.Ground.phase }, { on := 8, ground := Go.Ground.phase }, { on := 9, ground := Go.Ground.phase }, { on := 10, ground := Go.Ground.phase }, { on := 11, ground := Go.Ground.phase }, { on := 12, ground := Go.Ground.phase }, { on := 13, ground := Go.Ground.phase }], guard := none }) (v := ?_) rfl (by kernel_rfl) (by kernel_rfl) (by kernel_rfl) (fun _ _ _ h => h) (Or.inl ⟨by rfl, ?_⟩) (by assumption) ?_
                  rotate_left
                  · (intro w' hSw; obtain ⟨q0, q1, q2, q3, q4, q5⟩ := hSw; go_simp; all_goals with_reducible rfl)
                  try simp only [Act.put, List.setIfInBounds_toArray, List.set_cons_zero, List.set_cons_succ]
                  refine wpAnyH_ready (rs := [15]) (by kernel_rfl) (by simp) ?_
                  refine AllReadyH.cons (o := { dst := none, op := Go.Op.store 26 (Go.Operand.tmp 85) (Go.Operand.tmp 84), type := 0, pos := "c10_walk.go:107", after := #[{ on := 14, ground := Go.Ground.data }, { on := 13, ground := Go.Ground.data }, { on := 13, ground := Go.Ground.chain }, { on := 0, ground := Go.Ground.phase }, { on := 1, ground := Go.Ground.phase }, { on := 2, ground := Go.Ground.phase }, { on := 3, ground := Go.Ground.phase }, { on := 4, ground := Go.Ground.phase }, { on := 5, ground := Go.Ground.phase }, { on := 6, ground := Go.Ground.phase }, { on := 7, ground := Go.Ground.phase }, { on := 8, ground := Go.Ground.phase }, { on := 9, ground := Go.Ground.phase }, { on := 10, ground := Go.Ground.phase }, { on := 11, ground := Go.Ground.phase }, { on := 12, ground := Go.Ground.phase }, { on := 13, ground := Go.Ground.phase }], guard := none }) rfl (fun K hK => ?_) AllReadyH.nil
                  have LVA := LV9.out.putA hcl htk HVC.out nt (by omega) (by omega) (by omega)
                  have hgA := (LV9.out.st.putA hcl htk HVC.out nt).2
                  have BXA := hide (BX9.out.grown hgA (fun e => nq (by injection e)))
                  have BRA := hide (BR9.out.grown hgA (fun e => nq2 (by injection e)))
                  rw [show (fun a b => if a = c ∧ b = t + 1 then nt else inSt k out M c t a b) = inSt k out M c (t + 1) by rw [← HNT.out]; exact in_more c t htc] at LVA
                  have LVA := hide LVA
                  have s2 := (sts_cell LVA.out.st.row hcl).2.2.1
                  rw [HVC.out] at s2
                  clear hgA
                  go_simp
                  refine hK.out _ _ ?_ (fun hHeld => ?_)
                  · exact ⟨s2, BRA.out.cell 0, BRA.out.cell 1, BXA.out.cell 0, BXA.out.cell 1, LVA.out.thr.cell 2⟩
                  clear hK K
                  try simp only [Act.put, List.setIfInBounds_toArray, List.set_cons_zero, List.set_cons_succ]
                  refine wpAnyH_done (by kernel_rfl) ?_ _
                  -- END R17
                  refine NoPanic.normal ?_
                  go_wp2_with fail
                  exact ⟨⟨t + 1, htk, by go_num, LVA.out, BXA.out⟩, by simp [intOf]; omega⟩
              · obtain rfl : t = k := by omega
                have LV := hide lv
                have s2 := (sts_cell lv.st.row hcl).2.2.1
                rw [HVC.out] at s2
                have nqg : ¬ (qc = g) := fun e => own_ty2 (lv.st.own c hcl) lv.st.row (by decide) (g := g) rfl (by rw [HVC.out, ← e]; rfl)
                clear lv bx
                go_wp2_with fail
                go_region_held3 (fun w' => w'.cell? ⟨g, c * 3 + 2, none⟩ = some (.slice (some ⟨qc, 0, none⟩) t cc)) (go_keep)
                  (first
                    | (go_at_call 38; refine (pWhole_c _ _).mono ?_; rintro e w8 ⟨rfl, b8⟩
                       have LV8 := hide (Lv.below (w := wt.drew) LV.out.drew b8)
                       have s2 := (sts_cell LV8.out.st.row hcl).2.2.1
                       rw [HVC.out] at s2
                       have eo := LV8.out.st.own c hcl
                       rw [HVC.out] at eo
                       obtain ⟨e0, e1, ef0, ef1⟩ := frs_cell eo hout
                       clear b8 eo))
                have LVZ := hide ((LV8.out.putA hcl hout HVC.out (0, 1) (by omega) (by omega) (by omega)).congr (M' := outSt t out M (c + 1)) (fun a b ha hb => in_end hcl hout ha hb))
                clear LV LV8 e0 e1 ef0 ef1 s2
                go_wp2_with fail
                exact ⟨⟨c + 1, hcl, by go_num, LVZ.out⟩, by simp [intOf]; omega⟩
        · obtain rfl : c = k := by omega
          have HE := hide (lv.st.congr (M' := hAt (leaveM c out M)) (fun a b ha _ => out_end ha b))
          have HB := hide lv.bel
          clear lv
          go_wp2_with fail
          go_end0
          exact ⟨rfl, HE.out, HB.out⟩
end Go.Proofs.Ytoapmmmmdfmaeac
