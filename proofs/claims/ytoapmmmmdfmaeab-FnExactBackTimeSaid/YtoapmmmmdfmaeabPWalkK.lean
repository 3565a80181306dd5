
/-
  Walks by chance: the program's BackTime.
-/
import Derived.Test.YtoapmmmmdfmaeabPWalkG
import Derived.Test.YtoapmmmmdfmaeabPWalkH
import Derived.Test.YtoapmmmmdfmaeabWalkG
namespace Go.Proofs.Ytoapmmmmdfmaeab
open Go.RowKit
set_option linter.unusedVariables false

theorem sumB_ok {L : List Nat} {C : List (List (Nat × Nat))} {c : Nat} : ∀ {n}, isF (sumB L C c n) = true → ∀ b, b ≤ n → isF (sumB L C c b) = true
  | 0, h, b, hb => by rw [show b = 0 by omega]; exact h
  | n + 1, h, b, hb => by
    by_cases e : b = n + 1
    · rw [e]; exact h
    · refine sumB_ok (n := n) ?_ b (by omega)
      have h : isF (if bitN (L[c]?.getD 0) n = 1 then plusC (sumB L C c n) (hAt C n c) else sumB L C c n) = true := h
      split at h
      · exact isF_of (plusF_is (plusC_ok h).1).1
      · exact h
/-- What stands while the times are added. -/
structure Bk (W w : World) (gn cn n : Nat) (L : List Nat) (gt : Nat) (f : Nat → Nat × Nat) (bs : Nat) (x : Nat × Nat) : Prop where
  nr : w.ownsRow W.heap.size 3 1 (.slice (some ⟨gn, 0, none⟩) n cn) n (ints (natI L))
  tm : w.ownsRow W.heap.size 26 2 (.slice (some ⟨gt, 0, none⟩) n n) n (frs n f)
  sm : Box w bs 26 #[.int .i64 (x.1 : Int), .int .i64 (x.2 : Int)]
  rs : Box w W.heap.size 26 #[.int .i64 0, .int .i64 0]
  bel : Below W.heap.size W w
section
variable {W w w' : World} {gn cn n gt bs : Nat} {L : List Nat} {f : Nat → Nat × Nat} {x : Nat × Nat}
theorem Bk.below (h : Bk W w gn cn n L gt f bs x) (hb : Below w.heap.size w w') : Bk W w' gn cn n L gt f bs x := ⟨own_below h.nr hb, own_below h.tm hb, h.sm.then hb, h.rs.then hb, below_then h.bel h.bel.size hb⟩
theorem Bk.drew (h : Bk W w gn cn n L gt f bs x) : Bk W w.drew gn cn n L gt f bs x := ⟨h.nr.drew, h.tm.drew, h.sm, h.rs, h.bel.drew⟩
theorem Bk.alloc (h : Bk W w gn cn n L gt f bs x) (o : Obj) : Bk W (w.alloc o) gn cn n L gt f bs x := h.below ((Below.refl _ _).alloc (Nat.le_refl _) o)
theorem Bk.set (h : Bk W w gn cn n L gt f bs x) (p : Nat × Nat) (h1 : gn ≠ bs) (h2 : gt ≠ bs) (h3 : W.heap.size < bs) : Bk W ((w.setCell ⟨bs, 0, none⟩ (.int .i64 (p.1 : Int))).setCell ⟨bs, 1, none⟩ (.int .i64 (p.2 : Int))) gn cn n L gt f bs p := by
  have hg := grown_then (grown_setP w bs 0 (.int .i64 (p.1 : Int))) (grown_setP (w.setCell ⟨bs, 0, none⟩ (.int .i64 (p.1 : Int))) bs 1 (.int .i64 (p.2 : Int)))
  refine ⟨h.nr.kept hg (.inr fun e => h1 (by injection e)), h.tm.kept hg (.inr fun e => h2 (by injection e)), ?_, h.rs.grown hg (fun e => by injection e with e; omega), h.bel.grown hg h.bel.size (fun k e => by injection e with e; omega)⟩
  simpa using (h.sm.set 0 (.int .i64 (p.1 : Int))).set 1 (.int .i64 (p.2 : Int))
theorem Bk.near (h : Bk W w gn cn n L gt f bs x) {k : Nat} (hk : k < n) (hL : L.length = n) : w.cell? ⟨gn, k, none⟩ = some (.int .i64 ((L[k]?.getD 0 : Nat) : Int)) := by
  obtain ⟨o, _⟩ := own_int h.nr (by omega : k < n) 0
  rw [natI_at] at o
  exact o
end
set_option maxHeartbeats 4000000 in
set_option maxRecDepth 100000 in
theorem implBackTime_c (bc br : Int) (s : ByteArray) (cell : Int) (W : World) : Calls Try.prog 13 #[.int .i64 bc, .int .i64 br, .string s, .int .i64 cell] W (Plain (optF (backV bc br s.toList cell)) W) := by
  have bx0 := Box.new W 26 #[.int .i64 0, .int .i64 0]
  have hb0 := (Below.refl W.heap.size W).alloc (Nat.le_refl _) (.cells #[.int .i64 0, .int .i64 0] 26)
  have r0 := row_new (W.alloc (.cells #[.int .i64 0, .int .i64 0] 26)) #[.int .i64 cell] 3 (n := W.heap.size + 1) (by simp)
  have bx1 := bx0.alloc (.cells #[.int .i64 cell] 3)
  have hb1 := hb0.alloc hb0.size (.cells #[.int .i64 cell] 3)
  unfold backV
  cases hk : smallK bc br s.toList with
  | none =>
    have HC := hide (chance1_no hk r0)
    clear hk r0 bx0 hb0
    go_enter Try.func13, Try.ntmps13
    go_wp2_with fail
    refine HC.out.mono ?_
    rintro e w1 ⟨rfl, b1⟩
    obtain ⟨c0, f0, c1, f1, c2, f2, bx, hb⟩ := frac_put (bx1.then b1) (below_then hb1 hb1.size b1) (Nat.le_refl _) (.int .i64 0) (.int .i64 0)
    clear bx1 b1
    go_wp2_with fail
    refine bodyPost_ret (res_frac2 rfl _ _ W.heap.size (.int .i64 0) (.int .i64 0) rfl bx) rfl ?_
    exact ⟨rfl, hb⟩
  | some p =>
    obtain ⟨ss, far⟩ := p
    obtain ⟨hS, hkk⟩ := smallK_some hk
    obtain ⟨a, b, n, hW⟩ := walk_of hS hkk
    have hsz := hW.size
    have hn9 := hW.nine
    have hlen := hW.len
    have h9s := hW.sets
    have HC := hide (chance1_yes hkk hS hlen r0)
    simp only
    rw [hsz]
    by_cases hc : 0 ≤ cell ∧ cell < (n : Int)
    · rw [if_pos hc]
      rw [decide_eq_true hc, Bool.true_and] at HC
      cases hh : hitOf (setsP bc br far ss) with
      | none =>
        rw [hh] at HC
        rw [Option.map_none]
        rw [show (none : Option (List (List (Nat × Nat)))).isSome = false from rfl] at HC
        clear hk hS hkk hW hh hlen h9s hc hsz r0 bx0 hb0
        go_enter Try.func13, Try.ntmps13
        go_wp2_with fail
        refine HC.out.mono ?_
        rintro e w1 ⟨A1, c1, rfl, o1, b1⟩
        obtain ⟨c0, f0, c1, f1, c2, f2, bx, hb⟩ := frac_put (bx1.then b1) (below_then hb1 hb1.size b1) (Nat.le_refl _) (.int .i64 0) (.int .i64 0)
        clear bx1 b1 o1
        go_wp2_with fail
        refine bodyPost_ret (res_frac2 rfl _ _ W.heap.size (.int .i64 0) (.int .i64 0) rfl bx) rfl ?_
        exact ⟨rfl, hb⟩
      | some M =>
        rw [hh] at HC
        rw [Option.map_some]
        rw [show (some M).isSome = true from rfl] at HC
        obtain ⟨hc1, hc2⟩ := hc
        obtain ⟨k, rfl⟩ := Int.eq_ofNat_of_zero_le hc1
        have hkn : k < n := by omega
        rw [Int.toNat_natCast]
        have HT := hide (fun A c w5 hr => timesTo_c sizeOf_9 A c n k _ M w5 hlen hkn h9s (elim_of hh (by rw [hlen]; exact hkn)) hr)
        obtain ⟨hq1, hq2, hq3, _, _⟩ := backs_of hh (c := k) (by rw [hlen]; exact hkn)
        rw [hlen] at hq3
        have HSZ := hide (fun w5 => sizeOf_9 _ (h9s.bd k) w5)
        have hx9 := h9s.bd k
        have HB1 := hide (fun t => shr9 _ t hx9)
        have HSS : Hid (∀ b, sumB (setsP bc br far ss) M k (b + 1) = if bitN ((setsP bc br far ss)[k]?.getD 0) b = 1 then plusC (sumB (setsP bc br far ss) M k b) (hAt M b k) else sumB (setsP bc br far ss) M k b) := fun b => rfl
        have HS0 : Hid (sumB (setsP bc br far ss) M k 0 = (0, 1)) := rfl
        have HSO := hide (fun b (hb : b ≤ n) => sumB_ok hq3 b hb)
        have HBC : Hid (backC (setsP bc br far ss) M k = plusC (1, 1) (quoC (sumB (setsP bc br far ss) M k n) (pcN 9 ((setsP bc br far ss)[k]?.getD 0), 1))) := by rw [← hlen]; rfl
        rw [← hq2]
        clear hk hS hkk hW hh hsz hc1 hc2 h9s r0 bx0 hb0 hq2 hq3
        generalize setsP bc br far ss = L at *
        have HLK := hide (show ∀ (w5 : World) (gn cn gt bs : Nat) (f : Nat → Nat × Nat) (x : Nat × Nat), Bk W w5 gn cn n L gt f bs x → w5.cell? ⟨gn, k, none⟩ = some (.int .i64 ((L[k]?.getD 0 : Nat) : Int)) from fun w5 gn cn gt bs f x h => h.near hkn hlen)
        generalize sumB L M k = sB at *
        generalize backC L M k = bC at *
        obtain ⟨xs, hxs⟩ : ∃ xs, L[k]?.getD 0 = xs := ⟨_, rfl⟩
        rw [hxs] at HSZ HB1 HBC hx9
        simp only [hxs] at HSS HLK
        clear hxs
        generalize pcN 9 xs = pc at *
        have k0 : (0 : Int) ≤ (k : Int) := by omega
        have k1 : (k : Int) < (n : Int) := by omega
        go_enter Try.func13, Try.ntmps13
        go_wp2_with fail
        refine HC.out.mono ?_
        rintro e w1 ⟨A1, c1, rfl, o1, b1⟩
        rw [hlen] at o1
        obtain ⟨gn, cn, hv, hcn1, hcn2, _, hgn1, hgn2⟩ := own_one o1 (by omega)
        obtain ⟨rfl, hcc⟩ : A1 = some ⟨gn, 0, none⟩ ∧ c1 = cn := by injection hv with e1 e2 e3; exact ⟨e1, e3⟩
        clear hv hcc
        have HL := hide hlen
        rw [hlen]
        have bx2 := bx1.then b1
        have hb2 := below_then hb1 hb1.size b1
        clear bx1 hb1 b1 hlen
        go_wp2_with fail
        refine (pWhole_c _ _).mono ?_
        rintro e w2 ⟨rfl, b2⟩
        have o2 := own_below o1 b2
        have bx3 := bx2.then b2
        have hb3 := below_then hb2 hb2.size b2
        have z2 := b2.size
        have zw : W.heap.size < w2.heap.size := bx3.in_
        have hal := (Below.refl w2.heap.size w2).alloc (Nat.le_refl _) (.cells #[.int .i64 0, .int .i64 1] 26)
        have o3 := own_below o2 hal
        have R3 := hide (own_reads o3)
        have bs3 := Box.new w2 26 #[.int .i64 0, .int .i64 1]
        have bx4 := bx3.then hal
        have hb4 := below_then hb3 hb3.size hal
        clear bx2 hb2 bx3 hb3 o1 o2 hal b2
        go_wp2_with fail
        refine (HT.out _ _ _ R3.out).mono ?_
        rintro e w4 ⟨gt, rfl, ot, b4⟩
        have hgt : w2.heap.size < gt := by have := (ot.lt _ rfl).1; simp at this; omega
        have BK : Hid (Bk W w4 gn c1 n L gt (fun i => hAt M i k) w2.heap.size (sB 0)) := ⟨own_mono (own_below o3 b4) (by have := hb4.size; simp at this ⊢; omega), own_mono ot (by simp; omega), by rw [HS0.out]; exact bs3.then b4, bx4.then b4, below_then hb4 hb4.size b4⟩
        clear o3 ot bs3 bx4 hb4 b4 R3
        go_wp2_with fail
        go_loopw [32] (fun iv wr => ∃ b : Nat, b ≤ n ∧ iv = .int .i64 (b : Int) ∧ Bk W wr gn c1 n L gt (fun i => hAt M i k) w2.heap.size (sB b)) (fun iv _ => n - (intOf iv).toNat)
        case atStart => exact ⟨0, Nat.zero_le _, rfl, BK.out⟩
        case round =>
          clear BK
          obtain ⟨b, hb, rfl, bk⟩ := hrel
          obtain ⟨wo, rfl⟩ : ∃ wo : World, wo = wr := ⟨_, rfl⟩
          have s0 := bk.sm.cell 0
          have s1 := bk.sm.cell 1
          have zs := bk.sm.in_
          have hnk := HLK.out _ _ _ _ _ _ _ bk
          have zn : gn < wo.heap.size := (bk.nr.lt _ rfl).2
          by_cases hlt : b < n
          · obtain ⟨t0, t1, _, _⟩ := frs_cell bk.tm hlt
            have b0 : (0 : Int) ≤ (b : Int) := by omega
            have b1 : (b : Int) < (n : Int) := by omega
            have b9 : (b : Int) ≤ 64 := by omega
            have eb := HB1.out b
            have HSSb := hide (HSS.out b)
            have HSOb := hide (HSO.out (b + 1) hlt)
            have BK := hide bk
            clear bk
            obtain ⟨tm, htm⟩ : ∃ tm, hAt M b k = tm := ⟨_, rfl⟩
            rw [htm] at t0 t1 HSSb
            clear htm
            rcases bitN_two xs b with hb2 | hb2
            · have HE := hide (HSSb.out.trans (if_neg (by rw [hb2]; omega)))
              rw [hb2] at eb
              clear HSSb hb2 HSOb
              go_wp2_with fail
              exact ⟨⟨b + 1, hlt, by go_num, by rw [HE.out]; exact BK.out.alloc _⟩, by simp [intOf]; omega⟩
            · have HE := hide (HSSb.out.trans (if_pos hb2))
              have HP := hide (fun w5 => pPlusC (sB b) tm w5 (by rw [← HE.out]; exact HSOb.out))
              rw [← HE.out] at HP
              rw [hb2] at eb
              obtain ⟨y2, hy2⟩ : ∃ y2, sB (b + 1) = y2 := ⟨_, rfl⟩
              obtain ⟨y, hy⟩ : ∃ y, sB b = y := ⟨_, rfl⟩
              rw [hy2, hy] at HP
              rw [hy] at BK s0 s1
              have HY2 := hide hy2
              clear HSSb hb2 HSOb HE hy2 hy
              go_wp2_with fail
              refine (HP.out _).mono ?_
              rintro e w6 ⟨rfl, b6⟩
              have bk6 := (BK.out.alloc (.cells #[.int .i64 (tm.1 : Int), .int .i64 (tm.2 : Int)] 26)).below b6
              have m0 := bk6.sm.cell 0
              have m1 := bk6.sm.cell 1
              have f0 := bk6.sm.free 0
              have f1 := bk6.sm.free 1
              have BK7 := hide (bk6.set y2 (by omega) (by omega) zw)
              clear bk6 b6
              go_wp2_with fail
              exact ⟨⟨b + 1, hlt, by go_num, by rw [HY2.out]; exact BK7.out⟩, by simp [intOf]; omega⟩
          · obtain rfl : b = n := by omega
            have h1 := hq1
            rw [HBC.out] at h1
            have h2 := isF_of (plusF_is (plusC_ok h1).1).2.1
            have HP := hide (fun w5 => pPlusC (1, 1) (quoC (sB b) (pc, 1)) w5 h1)
            have HO := hide (fun w5 => pOverC (sB b) (pc, 1) w5 h2)
            rw [← HBC.out] at HP
            obtain ⟨y, hy⟩ : ∃ y, sB b = y := ⟨_, rfl⟩
            rw [hy] at HO HP bk s0 s1
            obtain ⟨z, hz⟩ : ∃ z, quoC y (pc, 1) = z := ⟨_, rfl⟩
            rw [hz] at HO HP
            have BK := hide bk
            have n1 : ¬ (W.heap.size = gn) := by have := (bk.rs.in_); intro e; have h := own_ne bk.nr bk.rs (by decide); rw [← e] at h; exact h rfl
            have n2 : ¬ (W.heap.size = w2.heap.size) := by omega
            clear bk h1 h2 hy hz
            go_wp2_with fail
            go_region_held3 (fun w' => w'.cell? ⟨gn, k, none⟩ = some (.int .i64 (xs : Int)) ∧ w'.cell? ⟨w2.heap.size, 0, none⟩ = some (.int .i64 (y.1 : Int)) ∧ w'.cell? ⟨w2.heap.size, 1, none⟩ = some (.int .i64 (y.2 : Int))) (go_keep)
              (first
                | (go_at_call 24; refine (HSZ.out _).mono ?_; rintro e w8 ⟨rfl, rfl⟩)
                | (go_at_call 23; have z7 := BK7; refine (pWhole_c _ _).mono ?_; rintro e w8 ⟨rfl, b8⟩
                   have BK8 := hide (BK7.out.below b8)
                   have hnk := HLK.out _ _ _ _ _ _ _ BK8.out
                   have s0 := BK8.out.sm.cell 0
                   have s1 := BK8.out.sm.cell 1
                   clear b8)
                | (go_at_call 23; refine (pWhole_c _ _).mono ?_; rintro e w7 ⟨rfl, b7⟩
                   have BK7 := hide (Bk.below (w := wo.drew) BK.out.drew b7)
                   have hnk := HLK.out _ _ _ _ _ _ _ BK7.out
                   have s0 := BK7.out.sm.cell 0
                   have s1 := BK7.out.sm.cell 1
                   clear b7)
                | (go_at_call 25; refine (HO.out _).mono ?_; rintro e w9 ⟨rfl, b9⟩
                   have BK9 := hide (BK8.out.below b9)
                   have hnk := HLK.out _ _ _ _ _ _ _ BK9.out
                   have s0 := BK9.out.sm.cell 0
                   have s1 := BK9.out.sm.cell 1
                   clear b9)
                | (go_at_call 38; refine (HP.out _).mono ?_; rintro e w10 ⟨rfl, b10⟩
                   have BK10 := hide (BK9.out.below b10)
                   have hnk := HLK.out _ _ _ _ _ _ _ BK10.out
                   have s0 := BK10.out.sm.cell 0
                   have s1 := BK10.out.sm.cell 1
                   obtain ⟨c0, f0, c1, f1, c2, f2, bx, hb⟩ := frac_put BK10.out.rs BK10.out.bel (Nat.le_refl _) (.int .i64 (bC.1 : Int)) (.int .i64 (bC.2 : Int))
                   clear b10))
            go_wp2_with fail
            refine bodyPost_ret (res_frac2 rfl _ _ W.heap.size (.int .i64 (bC.1 : Int)) (.int .i64 (bC.2 : Int)) rfl bx) rfl ?_
            exact ⟨rfl, hb⟩
    · rw [if_neg hc]
      rw [decide_eq_false hc, Bool.false_and] at HC
      clear hk hS hkk hW hlen h9s hc hsz r0 bx0 hb0
      go_enter Try.func13, Try.ntmps13
      go_wp2_with fail
      refine HC.out.mono ?_
      rintro e w1 ⟨A1, c1, rfl, o1, b1⟩
      obtain ⟨c0, f0, c1, f1, c2, f2, bx, hb⟩ := frac_put (bx1.then b1) (below_then hb1 hb1.size b1) (Nat.le_refl _) (.int .i64 0) (.int .i64 0)
      clear bx1 b1 o1
      go_wp2_with fail
      refine bodyPost_ret (res_frac2 rfl _ _ W.heap.size (.int .i64 0) (.int .i64 0) rfl bx) rfl ?_
      exact ⟨rfl, hb⟩
end Go.Proofs.Ytoapmmmmdfmaeab
