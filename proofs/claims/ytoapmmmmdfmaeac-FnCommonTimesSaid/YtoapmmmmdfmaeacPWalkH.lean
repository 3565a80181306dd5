
/-
  Walks by chance: the program's timesTo.
-/
import Derived.Test.YtoapmmmmdfmaeacPWalkD
import Derived.Test.YtoapmmmmdfmaeacPWalkE
namespace Go.Proofs.Ytoapmmmmdfmaeac
open Go.RowKit
set_option linter.unusedVariables false

/-- Mean times that are known ahead of cell i. -/
def doneT (C : List (List (Nat × Nat))) (en i a : Nat) : Nat × Nat := if a < i then hAt C a en else (0, 0)
theorem done_more (C : List (List (Nat × Nat))) (en i : Nat) {p : Nat × Nat} (h : hAt C i en = p) : upd (doneT C en i) i p = doneT C en (i + 1) := by
  funext a
  unfold upd doneT
  by_cases e : a = i
  · subst e; simp [h]
  · by_cases e2 : a < i
    · simp [e, e2, show a < i + 1 by omega]
    · simp [e, e2, show ¬ a < i + 1 by omega]
theorem upd_upd (f : Nat → Nat × Nat) (i : Nat) (p q : Nat × Nat) : upd (upd f i p) i q = upd f i q := by
  funext a
  unfold upd
  by_cases e : a = i <;> simp [e]
set_option maxHeartbeats 4000000 in
set_option maxRecDepth 100000 in
theorem timesTo_c (HZ : ∀ t : Nat, t < 512 → ∀ w, Calls Try.prog 58 #[.int .i64 (t : Int)] w fun e w' => e = .returned (.int .i64 ((pcN 9 t : Nat) : Int)) ∧ w = w')
    (A : Option Addr) (c n en : Nat) (L : List Nat) (C : List (List (Nat × Nat))) (W : World) (hlen : L.length = n) (hen : en < n) (h9 : Sets9 L) (hE : ElimIs L C en) (hr : Row W A (ints (natI L))) :
    Calls Try.prog 19 #[.slice A n c, .int .i64 (en : Int)] W fun e w' => ∃ g, e = .returned (.slice (some ⟨g, 0, none⟩) n n) ∧ w'.ownsRow W.heap.size 26 2 (.slice (some ⟨g, 0, none⟩) n n) n (frs n fun i => hAt C i en) ∧ Below W.heap.size W w' := by
  have hn9 : n ≤ 9 := by have := h9.len; omega
  have HSS := hide (fun w5 hr => stops_c HZ A c n L w5 hlen (by omega) h9 hr)
  have HR := hide hr
  have HST := hide (fun o (ho : o < n) (hne : o ≠ en) => show LeaveOk n o (elimTo L en o) by rw [← hlen] at ho ⊢; exact hE.step o ho hne)
  have HTM := hide (fun i (hi : i < n) => show isF (hAt C i en) = true ∧ timeOf (elimTo L en n) en i = hAt C i en by rw [← hlen] at hi ⊢; exact hE.time i hi)
  have HES : Hid (∀ o, elimTo L en (o + 1) = if o = en then elimTo L en o else leaveM n o (elimTo L en o)) := fun o => by rw [← hlen]; rfl
  have HE0 : Hid (elimTo L en 0 = startM L) := rfl
  obtain ⟨i0, hi0, hz0, hz1, hz2⟩ := made_infoP (P := Try.prog) (e := 26) (z := .agg #[.int .i64 0, .int .i64 0]) (size := 2) (bytes := 16) (by kernel_rfl)
  clear hr h9 hE hlen HZ
  go_enter Try.func19, Try.ntmps19
  go_wp2_with fail
  refine (HSS.out _ HR.out).mono ?_
  rintro e w1 ⟨g, vs, rfl, st1, b1⟩
  rw [← HE0.out] at st1
  have ST1 := hide st1
  have B1 := hide b1
  clear st1 b1
  go_wp2_with fail
  go_loopw [14] (fun i wr => ∃ o : Nat, o ≤ n ∧ i = .int .i64 (o : Int) ∧ StopsAt wr W.heap.size g n n vs (fun _ => n) (hAt (elimTo L en o)) ∧ Below W.heap.size W wr) (fun i _ => n - (intOf i).toNat)
  case atStart => exact ⟨0, Nat.zero_le _, rfl, ST1.out, B1.out⟩
  case round =>
    clear ST1 B1
    obtain ⟨o, ho, rfl, st, hb⟩ := hrel
    obtain ⟨wo, rfl⟩ : ∃ wo : World, wo = wr := ⟨_, rfl⟩
    have ST := hide st
    have HB := hide hb
    clear st hb
    have HEo := hide (HES.out o)
    by_cases hlt : o < n
    · by_cases hoe : o = en
      · have hne : ((o : Int) != (en : Int)) = false := by rw [hoe]; simp
        have HE1 := hide (HEo.out.trans (if_pos hoe))
        clear hoe HEo
        go_wp2_with fail
        exact ⟨⟨o + 1, hlt, by go_num, by rw [HE1.out]; exact ST.out, HB.out⟩, by simp [intOf]; omega⟩
      · have hne : ((o : Int) != (en : Int)) = true := by rw [bne_iff_ne]; omega
        have HE1 := hide (HEo.out.trans (if_neg hoe))
        have HLO := hide (leaveOut_c W.heap.size g n n o vs (elimTo L en o) wo ST.out hlt hn9 (HST.out o hlt hoe))
        clear hoe HEo
        go_wp2_with fail
        refine HLO.out.mono ?_
        rintro e w2 ⟨rfl, st2, b2⟩
        have ST2 := hide st2
        have B2 := hide (HB.out.trans b2)
        clear st2 b2
        go_wp2_with fail
        exact ⟨⟨o + 1, hlt, by go_num, by rw [HE1.out]; exact ST2.out, B2.out⟩, by simp [intOf]; omega⟩
    · obtain rfl : o = n := by omega
      clear HEo
      have hzw := HB.out.size
      go_wp2_with ((at_make; refine wpList_make_full _ rfl (.tmp 25) (.tmp 25) 45 rfl W.heap.size 26 i0 (.agg #[.int .i64 0, .int .i64 0]) 2 Try.underlying45 hi0 hz0 hz1 .i64 .i64 o o o rfl rfl rfl rfl (by rw [hz2]; omega) (by simp [maxLen]; omega) hzw ?_; intro w3 own3 hg3; have b3 := HB.out.grown hg3 HB.out.size (fun k h => by cases h)))
      rw [show (Value.agg #[.int .i64 0, .int .i64 0]).cells = #[.int .i64 0, .int .i64 0] from rfl, made_flat _ (sz := 2) rfl (by omega)] at own3
      have st3 := ST.out.below ⟨hg3.os, hg3.tape, hg3.output, hg3.size, fun k hk => hg3.block k hk (by simp)⟩
      have zf : wo.heap.size < w3.heap.size := (own3.lt _ rfl).2
      have hgf : g ≠ wo.heap.size := by have := ST.out.lt.2; omega
      have hvf := hide (fun i (hi : i < o) => show (vs i).ownBlock ≠ some wo.heap.size from fun e => by have := ((ST.out.own i hi).lt _ e).2; omega)
      have ST3 := hide st3
      have OW3 : Hid (w3.ownsRow W.heap.size 26 2 (.slice (some ⟨wo.heap.size, 0, none⟩) o o) o (frs o (doneT C en 0))) := own3
      have B3 := hide b3
      clear st3 own3 b3 hg3 hi0 hz0 hz1 hz2 HB ST HES HE0 HST HSS
      obtain ⟨E, hE⟩ : ∃ E, elimTo L en o = E := ⟨_, rfl⟩
      rw [hE] at ST3 HTM
      clear hE
      go_loopw [29] (fun iv wr => ∃ i : Nat, i ≤ o ∧ iv = .int .i64 (i : Int) ∧ StopsAt wr W.heap.size g o o vs (fun _ => o) (hAt E) ∧ wr.ownsRow W.heap.size 26 2 (.slice (some ⟨wo.heap.size, 0, none⟩) o o) o (frs o (doneT C en i)) ∧ Below W.heap.size W wr) (fun iv _ => o - (intOf iv).toNat)
      case atStart => exact ⟨0, Nat.zero_le _, rfl, ST3.out, OW3.out, B3.out⟩
      case round =>
        clear ST3 OW3 B3 zf
        obtain ⟨i, hi, rfl, st, ow, hb⟩ := hrel
        obtain ⟨wi, rfl⟩ : ∃ wi : World, wi = wr := ⟨_, rfl⟩
        by_cases hlt2 : i < o
        · obtain ⟨HF1, HT1⟩ := HTM.out i hlt2
          obtain ⟨d0, d1, d2, _⟩ := sts_cell st.row hlt2
          obtain ⟨q, d, hv, hq1, hq2⟩ := st.slice hlt2 (by omega)
          rw [hv] at d2
          have zf : wo.heap.size < wi.heap.size := (ow.lt _ rfl).2
          have ST := hide st
          have OW := hide ow
          have HB := hide hb
          have HV := hide hv
          obtain ⟨m, hm⟩ : ∃ m, hAt E i 0 = m := ⟨_, rfl⟩
          rw [hm] at d0 d1
          obtain ⟨ar, har⟩ : ∃ ar, hAt E i (en + 1) = ar := ⟨_, rfl⟩
          have HM := hide (And.intro hm har)
          have i0 : (0 : Int) ≤ (i : Int) := by omega
          have i1 : (i : Int) < (o : Int) := by omega
          have n0 : (0 : Int) ≤ (en : Int) := by omega
          have n1 : (en : Int) < (o : Int) := by omega
          clear st ow hb hv hm har
          by_cases hie : i = en
          · have hne : ((i : Int) != (en : Int)) = false := by rw [hie]; simp
            have HD := hide (done_more C en i (p := (0, 1)) (HT1.symm.trans (if_pos hie)))
            clear hie
            go_wp2_with fail
            refine (pWhole_c _ _).mono ?_
            rintro e w5 ⟨rfl, b5⟩
            have hal := (Below.refl wi.heap.size wi).alloc (Nat.le_refl _) (.cells #[.int .i64 (m.1 : Int), .int .i64 (m.2 : Int), .slice (some ⟨q, 0, none⟩) o d] 73)
            have st5 := (ST.out.below hal).below b5
            have ow5 := own_below (own_below OW.out hal) b5
            have bx5 := (Box.new wi 73 #[.int .i64 (m.1 : Int), .int .i64 (m.2 : Int), .slice (some ⟨q, 0, none⟩) o d]).then b5
            have hb5 := below_then (below_then HB.out HB.out.size hal) (by have := HB.out.size; simp; omega) b5
            obtain ⟨t0, t1, tf0, tf1⟩ := frs_cell ow5 hlt2
            obtain ⟨ow6, g6⟩ := frs_store ow5 hlt2 (0, 1)
            have st6 := st5.other hgf hvf.out g6
            have bx6 := bx5.grown g6 (fun e => by injection e with e; omega)
            have hb6 := hb5.grown g6 hb5.size (fun k e => by injection e with e; have := (ow5.lt _ rfl).1; omega)
            obtain ⟨w6, hw6⟩ : ∃ w6, (w5.setCell ⟨wo.heap.size, i * 2, none⟩ (.int .i64 0)).setCell ⟨wo.heap.size, i * 2 + 1, none⟩ (.int .i64 1) = w6 := ⟨_, rfl⟩
            have ST6 : Hid (StopsAt w6 W.heap.size g o o vs (fun _ => o) (hAt E)) := by rw [← hw6]; exact st6
            have OW6 : Hid (w6.ownsRow W.heap.size 26 2 (.slice (some ⟨wo.heap.size, 0, none⟩) o o) o (frs o (upd (doneT C en i) i (0, 1)))) := by rw [← hw6]; exact ow6
            have BX6 : Hid (Box w6 wi.heap.size 73 #[.int .i64 (m.1 : Int), .int .i64 (m.2 : Int), .slice (some ⟨q, 0, none⟩) o d]) := by rw [← hw6]; exact bx6
            have HB6 : Hid (Below W.heap.size W w6) := by rw [← hw6]; exact hb6
            have HW6 := hide hw6
            clear hw6
            go_wp2_with fail
            rw [HW6.out]
            clear st5 ow5 bx5 hb5 st6 ow6 bx6 hb6 g6 hal ST OW HB b5
            go_wp2_with fail
            exact ⟨⟨i + 1, hlt2, by go_num, ST6.out, by rw [← HD.out]; exact OW6.out, HB6.out⟩, by simp [intOf]; omega⟩
          · have hne : ((i : Int) != (en : Int)) = true := by rw [bne_iff_ne]; omega
            have HT2 := HT1.symm.trans (if_neg hie)
            have HOV := hide (fun w5 => pOverC m ar w5 (by
              have := HF1
              rw [HT2] at this
              rw [← HM.out.1, ← HM.out.2]
              exact this))
            have HD := hide (done_more C en i (p := quoC m ar) (by rw [HT2, ← HM.out.1, ← HM.out.2]; rfl))
            generalize quoC m ar = tm at *
            clear hie HT2
            go_wp2_with fail
            refine (pWhole_c _ _).mono ?_
            rintro e w5 ⟨rfl, b5⟩
            have hal := (Below.refl wi.heap.size wi).alloc (Nat.le_refl _) (.cells #[.int .i64 (m.1 : Int), .int .i64 (m.2 : Int), .slice (some ⟨q, 0, none⟩) o d] 73)
            have st5 := (ST.out.below hal).below b5
            have ow5 := own_below (own_below OW.out hal) b5
            have bx5 := (Box.new wi 73 #[.int .i64 (m.1 : Int), .int .i64 (m.2 : Int), .slice (some ⟨q, 0, none⟩) o d]).then b5
            have hb5 := below_then (below_then HB.out HB.out.size hal) (by have := HB.out.size; simp; omega) b5
            obtain ⟨t0, t1, tf0, tf1⟩ := frs_cell ow5 hlt2
            obtain ⟨ow6, g6⟩ := frs_store ow5 hlt2 (0, 1)
            have st6 := st5.other hgf hvf.out g6
            have bx6 := bx5.grown g6 (fun e => by injection e with e; omega)
            have hb6 := hb5.grown g6 hb5.size (fun k e => by injection e with e; have := (ow5.lt _ rfl).1; omega)
            obtain ⟨w6, hw6⟩ : ∃ w6, (w5.setCell ⟨wo.heap.size, i * 2, none⟩ (.int .i64 0)).setCell ⟨wo.heap.size, i * 2 + 1, none⟩ (.int .i64 1) = w6 := ⟨_, rfl⟩
            have ST6 : Hid (StopsAt w6 W.heap.size g o o vs (fun _ => o) (hAt E)) := by rw [← hw6]; exact st6
            have OW6 : Hid (w6.ownsRow W.heap.size 26 2 (.slice (some ⟨wo.heap.size, 0, none⟩) o o) o (frs o (upd (doneT C en i) i (0, 1)))) := by rw [← hw6]; exact ow6
            have BX6 : Hid (Box w6 wi.heap.size 73 #[.int .i64 (m.1 : Int), .int .i64 (m.2 : Int), .slice (some ⟨q, 0, none⟩) o d]) := by rw [← hw6]; exact bx6
            have HB6 : Hid (Below W.heap.size W w6) := by rw [← hw6]; exact hb6
            have HW6 := hide hw6
            clear hw6
            go_wp2_with fail
            rw [HW6.out]
            clear st5 ow5 bx5 hb5 st6 ow6 bx6 hb6 g6 hal ST OW HB b5
            have x0 := BX6.out.cell 0
            have x1 := BX6.out.cell 1
            have x2 := BX6.out.cell 2
            have so := ST6.out.own i hlt2
            rw [HV.out] at so
            obtain ⟨a0, a1, _, _⟩ := frs_cell so hen
            rw [HM.out.2] at a0 a1
            have nf : ¬ (wo.heap.size = wi.heap.size) := by omega
            have nfq : ¬ (wo.heap.size = q) := fun e => hvf.out i hlt2 (by rw [HV.out, e]; rfl)
            have z9 := BX6.out.in_
            clear so HW6
            go_wp2_with fail
            go_region_held3 (fun w' => w'.cell? ⟨wi.heap.size, 0, none⟩ = some (.int .i64 (m.1 : Int)) ∧ w'.cell? ⟨wi.heap.size, 1, none⟩ = some (.int .i64 (m.2 : Int)) ∧ w'.cell? ⟨wi.heap.size, 2, none⟩ = some (.slice (some ⟨q, 0, none⟩) o d) ∧ w'.cell? ⟨q, en * 2, none⟩ = some (.int .i64 (ar.1 : Int)) ∧ w'.cell? ⟨q, en * 2 + 1, none⟩ = some (.int .i64 (ar.2 : Int))) (go_keep)
              (first
                | (go_at_call 39; refine (HOV.out _).mono ?_; rintro e w7 ⟨rfl, b7⟩
                   have ST7 := hide (StopsAt.below (w := w6.drew) ST6.out.drew b7)
                   have BX7 := hide (Box.then (w := w6.drew) BX6.out b7)
                   have OW7 := hide (own_below (w := w6.drew) OW6.out.drew b7)
                   have HB7 := hide (below_then (w := w6.drew) HB6.out.drew HB6.out.drew.size b7)
                   have x0 := BX7.out.cell 0
                   have x1 := BX7.out.cell 1
                   have x2 := BX7.out.cell 2
                   have so := ST7.out.own i hlt2
                   rw [HV.out] at so
                   obtain ⟨a0, a1, _, _⟩ := frs_cell so hen
                   rw [HM.out.2] at a0 a1
                   obtain ⟨t0, t1, tf0, tf1⟩ := frs_cell OW7.out hlt2
                   clear so b7))
            obtain ⟨ow8, g8⟩ := frs_store OW7.out hlt2 tm
            rw [upd_upd, HD.out] at ow8
            have ST8 := hide (ST7.out.other hgf hvf.out g8)
            have OW8 := hide ow8
            have HB8 := hide (HB7.out.grown g8 HB7.out.size (fun k e => by injection e with e; have := (OW7.out.lt _ rfl).1; omega))
            clear ST7 BX7 OW7 HB7 ow8 g8 x0 x1 x2 a0 a1 t0 t1 tf0 tf1
            go_wp2_with fail
            exact ⟨⟨i + 1, hlt2, by go_num, ST8.out, OW8.out, HB8.out⟩, by simp [intOf]; omega⟩
        · obtain rfl : i = o := by omega
          have HE := hide (show frs i (doneT C en i) = frs i (fun a => hAt C a en) from frs_congr fun a ha => by simp [doneT, ha])
          have OW := hide ow
          have HB := hide hb
          clear st ow hb
          go_wp2_with fail
          go_ret
          exact ⟨_, rfl, by rw [← HE.out]; exact OW.out, HB.out⟩
end Go.Proofs.Ytoapmmmmdfmaeac
