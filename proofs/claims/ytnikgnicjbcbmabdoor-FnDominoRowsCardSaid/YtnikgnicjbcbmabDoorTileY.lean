
/-
  Covers by signs: the model's TileBySigns.
-/
import Derived.Test.YtnikgnicjbcbmabDoorTileW
import Derived.BigQuiet
namespace Go.Proofs.YtnikgnicjbcbmabDoor
open Go.RowKit
set_option linter.unusedVariables false

theorem own_drewN {w : World} {base e size n : Nat} {v : Value} {xs : List Value} (h : w.ownsRow base e size v n xs) (k : Nat) : (w.drewN k).ownsRow base e size v n xs := h
theorem rows_drewN {w : World} {base n : Nat} {ps : List (Nat × Nat)} {M : Mat} (h : RowsAt w base n ps M) (k : Nat) : RowsAt (w.drewN k) base n ps M := ⟨h.len, fun i hi => own_drewN (h.own i hi) k, h.apart⟩
theorem evens_snoc (w a : Nat) : evens w (a + 1) = evens w a ++ if (a / w + a % w) % 2 == 0 then [a] else [] := by
  simp only [evens, List.range_succ, List.filter_append, List.filter_cons, List.filter_nil]
theorem odds_snoc (w a : Nat) : odds w (a + 1) = odds w a ++ if !((a / w + a % w) % 2 == 0) then [a] else [] := by
  simp only [odds, List.range_succ, List.filter_append, List.filter_cons, List.filter_nil]
def rowP (w n a : Nat) : List Int := (odds w n).map (signOf w a)
def matP (w n a : Nat) : Mat := (evens w a).map (rowP w n)
/-- By signs. -/
def signsP (bc br : Int) : Int := if Brd bc br then ((rowsT bc.toNat br.toNat (fun _ => false) br.toNat 0 : Nat) : Int) else -1
structure SignsOk (w h : Nat) : Prop where
  odd : (w * h) % 2 = 1 → rowsT w h (fun _ => false) h 0 = 0
  det : (w * h) % 2 = 0 → ∃ v, detP (signsM w h).length (signsM w h) 1 1 = some v ∧ (if v < 0 then -v else v) = ((rowsT w h (fun _ => false) h 0 : Nat) : Int) ∧ (odds w (w * h)).length = (signsM w h).length ∧ 1 ≤ (signsM w h).length
  turn : rowsT h w (fun _ => false) w 0 = rowsT w h (fun _ => false) h 0
  bd : rowsT w h (fun _ => false) h 0 ≤ 1000000
theorem signs_more : ∀ a : Fin 5, ∀ b : Fin 5, ((a.val + 1) * (b.val + 1)) % 2 = 0 → (odds (a.val + 1) ((a.val + 1) * (b.val + 1))).length = (signsM (a.val + 1) (b.val + 1)).length ∧ 1 ≤ (signsM (a.val + 1) (b.val + 1)).length ∧ matIn (signsM (a.val + 1) (b.val + 1)) = true := by decide +kernel
theorem signs_is {w h : Nat} (hw : 1 ≤ w ∧ w ≤ 5) (hh : 1 ≤ h ∧ h ≤ 5) : SignsOk w h := by
  have h0 := signs_ok ⟨w - 1, by omega⟩ ⟨h - 1, by omega⟩
  have h1 := signs_more ⟨w - 1, by omega⟩ ⟨h - 1, by omega⟩
  simp only [show w - 1 + 1 = w by omega, show h - 1 + 1 = h by omega] at h0 h1
  unfold signsOk at h0
  simp only [Bool.and_eq_true, beq_iff_eq, decide_eq_true_eq] at h0
  obtain ⟨⟨⟨e1, _⟩, e3⟩, e4⟩ := h0
  refine ⟨fun ho => ?_, fun he => ?_, e3, e4⟩
  · unfold tileD at e1
    rw [if_pos ho] at e1
    have := Option.some.inj e1
    omega
  · unfold tileD at e1
    rw [if_neg (by omega)] at e1
    cases hd : detP (signsM w h).length (signsM w h) 1 1 with
    | none => rw [hd] at e1; cases e1
    | some v =>
      rw [hd] at e1
      exact ⟨v, rfl, Option.some.inj e1, (h1 he).1, (h1 he).2.1⟩

set_option maxHeartbeats 8000000 in
set_option maxRecDepth 100000 in
theorem tileBySigns_c (bc br : Int) (W : World) : Calls Tryd.prog 7 #[.int .i64 bc, .int .i64 br] W (Plain (.int .i64 (signsP bc br)) W) := by
  by_cases hB : Brd bc br
  · have HV := hide (fun w5 => validBoard_yes bc br w5 hB)
    have hsp : signsP bc br = ((rowsT bc.toNat br.toNat (fun _ => false) br.toNat 0 : Nat) : Int) := by unfold signsP; rw [if_pos hB]
    obtain ⟨h1, h2, h3, h4⟩ := hB
    obtain ⟨w, rfl⟩ := Int.eq_ofNat_of_zero_le (show 0 ≤ bc by omega)
    obtain ⟨h, rfl⟩ := Int.eq_ofNat_of_zero_le (show 0 ≤ br by omega)
    have hw : 1 ≤ w ∧ w ≤ 5 := by omega
    have hh : 1 ≤ h ∧ h ≤ 5 := by omega
    have hso := signs_is hw hh
    have hmat := signs_more ⟨w - 1, by omega⟩ ⟨h - 1, by omega⟩
    simp only [show w - 1 + 1 = w by omega, show h - 1 + 1 = h by omega] at hmat
    simp only [Int.toNat_natCast] at hsp
    rw [hsp]
    have hn1 : 1 ≤ w * h := Nat.mul_le_mul hw.1 hh.1
    have hn25 : w * h ≤ 25 := Nat.mul_le_mul hw.2 hh.2
    have emul : IntKind.i64.wrap ((w : Int) * (h : Int)) = ((w * h : Nat) : Int) := by rw [Int.natCast_mul]; exact IntWalk.i64_in _ (by rw [← Int.natCast_mul]; omega)
    have hSM : signsM w h = matP w (w * h) (w * h) := rfl
    obtain ⟨w1, w5⟩ := hw
    have hw0 : (w : Int) ≠ 0 := by omega
    obtain ⟨o1, o2, o3, o4⟩ := hso
    clear hsp h1 h2 h3 h4 hh o3
    obtain ⟨X, hX⟩ : ∃ X, rowsT w h (fun _ => false) h 0 = X := ⟨_, rfl⟩
    rw [hX] at o1 o2 o4 ⊢
    clear hX
    rw [hSM] at o2 hmat
    clear hSM
    generalize w * h = n at *
    have tm : Int.tmod (n : Int) 2 = ((n % 2 : Nat) : Int) := rfl
    have tm' : (n : Int) % 2 = ((n % 2 : Nat) : Int) := by omega
    by_cases hpar : n % 2 = 1
    · rw [hpar] at tm tm'
      have hX0 := o1 hpar
      subst hX0
      clear o1 o2 hmat
      go_enter Tryd.func7, Tryd.ntmps7
      go_wp2_with fail
      refine (HV.out _).mono ?_
      rintro e w1' ⟨rfl, rfl⟩
      go_wp2_with fail
      go_ret
      exact ⟨rfl, Below.refl _ _⟩
    · have hpar0 : n % 2 = 0 := by omega
      rw [hpar0] at tm tm'
      obtain ⟨v, d1, d2, d3, d4⟩ := o2 hpar0
      have d5 := (hmat hpar0).2.2
      have D1 := hide d1
      have D2 := hide d2
      have D3 := hide d3
      have D4 := hide d4
      have D5 := hide d5
      clear d1 d2 d3 d4 d5 o1 o2 hmat hpar
      go_enter Tryd.func7, Tryd.ntmps7
      go_wp2_with fail
      refine (HV.out _).mono ?_
      rintro e w1' ⟨rfl, rfl⟩
      go_wp2_with fail
      go_loopw [5, 6] (fun m i wr => ∃ (a : Nat) (ps : List (Nat × Nat)), a ≤ n ∧ i = .int .i64 (a : Int) ∧ ps.length = (evens w a).length ∧ ps.length ≤ a ∧ wr.ownsRow W.heap.size 35 1 m ps.length (vsOf (odds w n).length ps) ∧ RowsAt wr W.heap.size (odds w n).length ps (matP w n a) ∧ Hid (∀ i (hi : i < ps.length), m.ownBlock ≠ some ps[i].1) ∧ Below W.heap.size W wr) (fun _ i _ => n - (intOf i).toNat)
      case atStart => exact ⟨0, [], Nat.zero_le _, rfl, rfl, Nat.le_refl _, World.ownsRow_made W #[] 0 (Nat.le_refl _) (by simp [maxLen]) rfl, ⟨by simp [matP, evens], fun i hi => absurd hi (by simp), fun i j hi => absurd hi (by simp)⟩, fun i hi => absurd hi (by simp), (Below.refl _ _).alloc (Nat.le_refl _) _⟩
      case round =>
        obtain ⟨a, ps, han, rfl, hpl, hpa, hown, hrows, hoff, hb⟩ := hrel
        have HPL := hide hpl
        clear hpl
        obtain ⟨wo, rfl⟩ : ∃ wo : World, wo = wr := ⟨_, rfl⟩
        have zo := hb.size
        by_cases hlt : a < n
        · have t1 : Int.tdiv (a : Int) (w : Int) = ((a / w : Nat) : Int) := rfl
          have t2 : Int.tmod (a : Int) (w : Int) = ((a % w : Nat) : Int) := rfl
          have hma : a % w < w := Nat.mod_lt _ (by omega)
          have hda : a / w ≤ a := Nat.div_le_self _ _
          have hev := evens_snoc w a
          obtain ⟨da, hda'⟩ : ∃ da, a / w = da := ⟨_, rfl⟩
          obtain ⟨ma, hma'⟩ : ∃ ma, a % w = ma := ⟨_, rfl⟩
          rw [hda', hma'] at hev
          rw [hda'] at t1 hda
          rw [hma'] at t2 hma
          have e1 : IntKind.i64.wrap (da : Int) = (da : Int) := IntWalk.i64_in _ (by omega)
          have e2 : IntKind.i64.wrap (ma : Int) = (ma : Int) := IntWalk.i64_in _ (by omega)
          have e3 : IntKind.i64.wrap ((da : Int) + (ma : Int)) = ((da + ma : Nat) : Int) := (IntWalk.i64_in _ (by omega)).trans (by omega)
          have t3 : Int.tmod ((da + ma : Nat) : Int) 2 = (((da + ma) % 2 : Nat) : Int) := rfl
          have t4 : Int.tmod ((da : Int) + (ma : Int)) 2 = (((da + ma) % 2 : Nat) : Int) := by rw [← Int.natCast_add]; rfl
          have HDA := hide hda'
          have HMA := hide hma'
          clear hda' hma'
          rcases Nat.mod_two_eq_zero_or_one (da + ma) with hs | hs
          · rw [hs] at t3 t4 hev
            have HEV := hide (show evens w (a + 1) = evens w a ++ [a] by rw [hev]; rfl)
            clear hev hs
            obtain ⟨Ah, ch, rfl, _⟩ := own_row hown
            have zl := hide (fun i hi => (hrows.lt i hi).2)
            have zh := hide (own_lt hown)
            have HOF := hoff
            clear hoff
            go_wp2_with fail
            go_quiet (fail)
            have hown := own_drewN hown nq
            have hrows := rows_drewN hrows nq
            have hb := below_drewN hb nq
            have zd : (wo.drewN nq).heap.size = wo.heap.size := rfl
            generalize wo.drewN nq = wd at *
            have HO1 := hide (hown.alloc (.cells #[] 3))
            have HR1 := hide (hrows.kept (World.grownBy_alloc wd (.cells #[] 3) none) (fun i hi => by simp))
            have HB1 := hide (hb.alloc hb.size (.cells #[] 3))
            have HV1 := hide (World.ownsRow_made wd (e := 3) (size := 1) #[] 0 (Nat.le_refl _) (by simp [maxLen]) rfl)
            have ZD := hide zd
            have zw : W.heap.size ≤ wd.heap.size := hb.size
            clear hown hrows hb e1 e2 e3 t1 t2 t3 t4 zd
            go_wp2_with fail
            go_loopw [7, 8] (fun r j wr => ∃ b : Nat, b ≤ n ∧ j = .int .i64 (b : Int) ∧ wr.ownsRow wd.heap.size 3 1 r (odds w b).length (ints ((odds w b).map (signOf w a))) ∧ (odds w b).length ≤ b ∧ wr.ownsRow W.heap.size 35 1 (.slice Ah ps.length ch) ps.length (vsOf (odds w n).length ps) ∧ RowsAt wr W.heap.size (odds w n).length ps (matP w n a) ∧ Below W.heap.size W wr ∧ wd.heap.size ≤ wr.heap.size) (fun _ j _ => n - (intOf j).toNat)
            case atStart => exact ⟨0, Nat.zero_le _, rfl, HV1.out, Nat.le_refl _, HO1.out, HR1.out, HB1.out, by simp⟩
            case round =>
              clear HO1 HR1 HB1 HV1
              obtain ⟨b, hbn, rfl, hro, hol, hho, hrr, hbb, hzz⟩ := hrel
              obtain ⟨wi, rfl⟩ : ∃ wi : World, wi = wr := ⟨_, rfl⟩
              by_cases hbl : b < n
              · have u1 : Int.tdiv (b : Int) (w : Int) = ((b / w : Nat) : Int) := rfl
                have u2 : Int.tmod (b : Int) (w : Int) = ((b % w : Nat) : Int) := rfl
                have t1 : Int.tdiv (a : Int) (w : Int) = ((a / w : Nat) : Int) := rfl
                have t2 : Int.tmod (a : Int) (w : Int) = ((a % w : Nat) : Int) := rfl
                rw [HDA.out] at t1
                rw [HMA.out] at t2
                have e1 : IntKind.i64.wrap (da : Int) = (da : Int) := IntWalk.i64_in _ (by omega)
                have e2 : IntKind.i64.wrap (ma : Int) = (ma : Int) := IntWalk.i64_in _ (by omega)
                have hmb : b % w < w := Nat.mod_lt _ (by omega)
                have hdb : b / w ≤ b := Nat.div_le_self _ _
                have hod := odds_snoc w b
                have hsv : signOf w a b = if a % w = b % w ∧ (a = b + w ∨ b = a + w) then 1 - 2 * ((a % w % 2 : Nat) : Int) else if a / w = b / w ∧ (a = b + 1 ∨ b = a + 1) then 1 else 0 := rfl
                rw [HDA.out, HMA.out] at hsv
                obtain ⟨db, hdb'⟩ : ∃ db, b / w = db := ⟨_, rfl⟩
                obtain ⟨mb, hmb'⟩ : ∃ mb, b % w = mb := ⟨_, rfl⟩
                rw [hdb', hmb'] at hod hsv
                rw [hdb'] at u1 hdb
                rw [hmb'] at u2 hmb
                clear hdb' hmb'
                have f1 : IntKind.i64.wrap (db : Int) = (db : Int) := IntWalk.i64_in _ (by omega)
                have f2 : IntKind.i64.wrap (mb : Int) = (mb : Int) := IntWalk.i64_in _ (by omega)
                have f3 : IntKind.i64.wrap ((db : Int) + (mb : Int)) = ((db + mb : Nat) : Int) := (IntWalk.i64_in _ (by omega)).trans (by omega)
                have u3 : Int.tmod ((db + mb : Nat) : Int) 2 = (((db + mb) % 2 : Nat) : Int) := rfl
                have u4 : Int.tmod ((db : Int) + (mb : Int)) 2 = (((db + mb) % 2 : Nat) : Int) := by rw [← Int.natCast_add]; rfl
                rcases Nat.mod_two_eq_zero_or_one (db + mb) with hs | hs
                · rw [hs] at u3 u4 hod
                  have HOD := hide (show odds w (b + 1) = odds w b by rw [hod]; simp)
                  clear hod hs hsv
                  go_wp2_with fail
                  go_quiet (fail)
                  go_wp2_with fail
                  exact ⟨⟨b + 1, hbl, rfl, by rw [HOD.out]; exact own_drewN hro _, by rw [HOD.out]; omega, own_drewN hho _, rows_drewN hrr _, below_drewN hbb _, hzz⟩, by simp [intOf]; omega⟩
                · rw [hs] at u3 u4 hod
                  have HOD := hide (show odds w (b + 1) = odds w b ++ [b] by rw [hod]; rfl)
                  clear hod hs
                  obtain ⟨Ar, cr, rfl, _⟩ := own_row hro
                  have HRO := hide hro
                  have HHO := hide hho
                  have HRR := hide hrr
                  have HBB := hide hbb
                  have zi := hbb.size
                  have hrb := hide (fun k (hk : (Value.slice Ar (odds w b).length cr).ownBlock = some k) => (hro.lt k hk).1)
                  clear hro hho hrr hbb
                  have g1 : IntKind.i64.wrap ((a : Int) - (b : Int)) = (a : Int) - (b : Int) := IntWalk.i64_in _ (by omega)
                  have g2 : IntKind.i64.wrap ((b : Int) - (a : Int)) = (b : Int) - (a : Int) := IntWalk.i64_in _ (by omega)
                  have m1 : Int.tmod (ma : Int) 2 = ((ma % 2 : Nat) : Int) := rfl
                  have m2' : (ma : Int) % 2 = ((ma % 2 : Nat) : Int) := by omega
                  have hm2 : ma % 2 ≤ 1 := by omega
                  obtain ⟨mm, hmm⟩ : ∃ mm, ma % 2 = mm := ⟨_, rfl⟩
                  rw [hmm] at m1 m2' hm2 hsv
                  clear hmm
                  have m3 : IntKind.i64.wrap (mm : Int) = (mm : Int) := IntWalk.i64_in _ (by omega)
                  have m4 : IntKind.i64.wrap (2 * (mm : Int)) = 2 * (mm : Int) := IntWalk.i64_in _ (by omega)
                  have m5 : IntKind.i64.wrap (1 - 2 * (mm : Int)) = 1 - 2 * (mm : Int) := IntWalk.i64_in _ (by omega)
                  by_cases hdd : da = db
                  · subst hdd
                    have b1 : ((da : Int) == (da : Int)) = true := by simp
                    by_cases ha1 : a = b + 1
                    · have b2 : (((a : Int) - (b : Int)) == 1) = true := by rw [beq_iff_eq]; omega
                      by_cases hmm : ma = mb
                      · subst hmm
                        have c1 : ((ma : Int) == (ma : Int)) = true := by simp
                        by_cases hw1 : a = b + w
                        · have c2 : (((a : Int) - (b : Int)) == (w : Int)) = true := by rw [beq_iff_eq]; omega
                          have HSV : Hid (signOf w a b = 1 - 2 * (mm : Int)) := hide (by rw [hsv]; rw [if_pos ⟨rfl, .inl hw1⟩])
                          clear hsv
                          try clear ha1
                          try clear ha2
                          try clear hw1
                          try clear hw2
                          try clear hmm
                          try clear hdd
                          go_wp2_with fail
                          go_quiet (fail)
                          go_wp2_with fail
                          go_quiet (fail)
                          go_wp2_with fail
                          go_quiet (fail)
                          go_wp2_with ((at_builtin; refine put_own rfl (.tmp 99) (.tmp 101) rfl Tryd.underlying35 elem_int' rfl ((own_drewN HRO.out _).alloc _) rfl (m := 1) (news := [.int .i64 (1 - 2 * (mm : Int))]) rfl (row_new _ _ _ rfl) (by simp [Value.oneCell']) (by omega) (by omega) (by simp; omega) ?_; intro v9 w9 own9 hg9 ho9))
                          go_roundw
                          case rel =>
                            refine ⟨b + 1, hbl, rfl, ?_, by rw [HOD.out]; simp; omega, own_other ((own_drewN HHO.out _).alloc _) (fun j e => by have := zh.out j e; have := ZD.out; omega) ((own_drewN HRO.out _).alloc _) (Nat.le_refl _) hg9, ((rows_drewN HRR.out _).kept (World.grownBy_alloc _ _ none) (fun i hi => by simp)).kept hg9 (fun i hi e => by have h1 := hrb.out _ e; have h2 := zl.out i hi; have := ZD.out; omega), below_grown ((below_drewN HBB.out _).alloc zi _) (by simp; omega) ((own_drewN HRO.out _).alloc _) zw hg9, ?_⟩
                            · rw [HOD.out, List.map_append, List.length_append]
                              simp only [List.map_cons, List.map_nil, List.length_singleton]
                              rw [HSV.out]
                              simpa [ints] using own9
                            · have := hg9.size
                              simp at this
                              omega
                          case measure => simp [intOf]; omega
                        · have c2 : (((a : Int) - (b : Int)) == (w : Int)) = false := by rw [beq_eq_false_iff_ne]; omega
                          by_cases hw2 : b = a + w
                          · have c3 : (((b : Int) - (a : Int)) == (w : Int)) = true := by rw [beq_iff_eq]; omega
                            have HSV : Hid (signOf w a b = 1 - 2 * (mm : Int)) := hide (by rw [hsv]; rw [if_pos ⟨rfl, .inr hw2⟩])
                            clear hsv
                            try clear ha1
                            try clear ha2
                            try clear hw1
                            try clear hw2
                            try clear hmm
                            try clear hdd
                            go_wp2_with fail
                            go_quiet (fail)
                            go_wp2_with fail
                            go_quiet (fail)
                            go_wp2_with fail
                            go_quiet (fail)
                            go_wp2_with ((at_builtin; refine put_own rfl (.tmp 99) (.tmp 101) rfl Tryd.underlying35 elem_int' rfl ((own_drewN HRO.out _).alloc _) rfl (m := 1) (news := [.int .i64 (1 - 2 * (mm : Int))]) rfl (row_new _ _ _ rfl) (by simp [Value.oneCell']) (by omega) (by omega) (by simp; omega) ?_; intro v9 w9 own9 hg9 ho9))
                            go_roundw
                            case rel =>
                              refine ⟨b + 1, hbl, rfl, ?_, by rw [HOD.out]; simp; omega, own_other ((own_drewN HHO.out _).alloc _) (fun j e => by have := zh.out j e; have := ZD.out; omega) ((own_drewN HRO.out _).alloc _) (Nat.le_refl _) hg9, ((rows_drewN HRR.out _).kept (World.grownBy_alloc _ _ none) (fun i hi => by simp)).kept hg9 (fun i hi e => by have h1 := hrb.out _ e; have h2 := zl.out i hi; have := ZD.out; omega), below_grown ((below_drewN HBB.out _).alloc zi _) (by simp; omega) ((own_drewN HRO.out _).alloc _) zw hg9, ?_⟩
                              · rw [HOD.out, List.map_append, List.length_append]
                                simp only [List.map_cons, List.map_nil, List.length_singleton]
                                rw [HSV.out]
                                simpa [ints] using own9
                              · have := hg9.size
                                simp at this
                                omega
                            case measure => simp [intOf]; omega
                          · have c3 : (((b : Int) - (a : Int)) == (w : Int)) = false := by rw [beq_eq_false_iff_ne]; omega
                            have HSV : Hid (signOf w a b = 1) := hide (by rw [hsv]; rw [if_neg (by rintro ⟨_, h | h⟩ <;> contradiction)]; rw [if_pos ⟨rfl, .inl ha1⟩])
                            clear hsv
                            try clear ha1
                            try clear ha2
                            try clear hw1
                            try clear hw2
                            try clear hmm
                            try clear hdd
                            go_wp2_with fail
                            go_quiet (fail)
                            go_wp2_with fail
                            go_quiet (fail)
                            go_wp2_with fail
                            go_quiet (fail)
                            go_wp2_with ((at_builtin; refine put_own rfl (.tmp 99) (.tmp 101) rfl Tryd.underlying35 elem_int' rfl ((own_drewN HRO.out _).alloc _) rfl (m := 1) (news := [.int .i64 (1)]) rfl (row_new _ _ _ rfl) (by simp [Value.oneCell']) (by omega) (by omega) (by simp; omega) ?_; intro v9 w9 own9 hg9 ho9))
                            go_roundw
                            case rel =>
                              refine ⟨b + 1, hbl, rfl, ?_, by rw [HOD.out]; simp; omega, own_other ((own_drewN HHO.out _).alloc _) (fun j e => by have := zh.out j e; have := ZD.out; omega) ((own_drewN HRO.out _).alloc _) (Nat.le_refl _) hg9, ((rows_drewN HRR.out _).kept (World.grownBy_alloc _ _ none) (fun i hi => by simp)).kept hg9 (fun i hi e => by have h1 := hrb.out _ e; have h2 := zl.out i hi; have := ZD.out; omega), below_grown ((below_drewN HBB.out _).alloc zi _) (by simp; omega) ((own_drewN HRO.out _).alloc _) zw hg9, ?_⟩
                              · rw [HOD.out, List.map_append, List.length_append]
                                simp only [List.map_cons, List.map_nil, List.length_singleton]
                                rw [HSV.out]
                                simpa [ints] using own9
                              · have := hg9.size
                                simp at this
                                omega
                            case measure => simp [intOf]; omega
                      · have c1 : ((ma : Int) == (mb : Int)) = false := by rw [beq_eq_false_iff_ne]; omega
                        have HSV : Hid (signOf w a b = 1) := hide (by rw [hsv]; rw [if_neg (fun h => hmm h.1)]; rw [if_pos ⟨rfl, .inl ha1⟩])
                        clear hsv
                        try clear ha1
                        try clear ha2
                        try clear hw1
                        try clear hw2
                        try clear hmm
                        try clear hdd
                        go_wp2_with fail
                        go_quiet (fail)
                        go_wp2_with fail
                        go_quiet (fail)
                        go_wp2_with fail
                        go_quiet (fail)
                        go_wp2_with ((at_builtin; refine put_own rfl (.tmp 99) (.tmp 101) rfl Tryd.underlying35 elem_int' rfl ((own_drewN HRO.out _).alloc _) rfl (m := 1) (news := [.int .i64 (1)]) rfl (row_new _ _ _ rfl) (by simp [Value.oneCell']) (by omega) (by omega) (by simp; omega) ?_; intro v9 w9 own9 hg9 ho9))
                        go_roundw
                        case rel =>
                          refine ⟨b + 1, hbl, rfl, ?_, by rw [HOD.out]; simp; omega, own_other ((own_drewN HHO.out _).alloc _) (fun j e => by have := zh.out j e; have := ZD.out; omega) ((own_drewN HRO.out _).alloc _) (Nat.le_refl _) hg9, ((rows_drewN HRR.out _).kept (World.grownBy_alloc _ _ none) (fun i hi => by simp)).kept hg9 (fun i hi e => by have h1 := hrb.out _ e; have h2 := zl.out i hi; have := ZD.out; omega), below_grown ((below_drewN HBB.out _).alloc zi _) (by simp; omega) ((own_drewN HRO.out _).alloc _) zw hg9, ?_⟩
                          · rw [HOD.out, List.map_append, List.length_append]
                            simp only [List.map_cons, List.map_nil, List.length_singleton]
                            rw [HSV.out]
                            simpa [ints] using own9
                          · have := hg9.size
                            simp at this
                            omega
                        case measure => simp [intOf]; omega
                    · have b2 : (((a : Int) - (b : Int)) == 1) = false := by rw [beq_eq_false_iff_ne]; omega
                      by_cases ha2 : b = a + 1
                      · have b3 : (((b : Int) - (a : Int)) == 1) = true := by rw [beq_iff_eq]; omega
                        by_cases hmm : ma = mb
                        · subst hmm
                          have c1 : ((ma : Int) == (ma : Int)) = true := by simp
                          by_cases hw1 : a = b + w
                          · have c2 : (((a : Int) - (b : Int)) == (w : Int)) = true := by rw [beq_iff_eq]; omega
                            have HSV : Hid (signOf w a b = 1 - 2 * (mm : Int)) := hide (by rw [hsv]; rw [if_pos ⟨rfl, .inl hw1⟩])
                            clear hsv
                            try clear ha1
                            try clear ha2
                            try clear hw1
                            try clear hw2
                            try clear hmm
                            try clear hdd
                            go_wp2_with fail
                            go_quiet (fail)
                            go_wp2_with fail
                            go_quiet (fail)
                            go_wp2_with fail
                            go_quiet (fail)
                            go_wp2_with ((at_builtin; refine put_own rfl (.tmp 99) (.tmp 101) rfl Tryd.underlying35 elem_int' rfl ((own_drewN HRO.out _).alloc _) rfl (m := 1) (news := [.int .i64 (1 - 2 * (mm : Int))]) rfl (row_new _ _ _ rfl) (by simp [Value.oneCell']) (by omega) (by omega) (by simp; omega) ?_; intro v9 w9 own9 hg9 ho9))
                            go_roundw
                            case rel =>
                              refine ⟨b + 1, hbl, rfl, ?_, by rw [HOD.out]; simp; omega, own_other ((own_drewN HHO.out _).alloc _) (fun j e => by have := zh.out j e; have := ZD.out; omega) ((own_drewN HRO.out _).alloc _) (Nat.le_refl _) hg9, ((rows_drewN HRR.out _).kept (World.grownBy_alloc _ _ none) (fun i hi => by simp)).kept hg9 (fun i hi e => by have h1 := hrb.out _ e; have h2 := zl.out i hi; have := ZD.out; omega), below_grown ((below_drewN HBB.out _).alloc zi _) (by simp; omega) ((own_drewN HRO.out _).alloc _) zw hg9, ?_⟩
                              · rw [HOD.out, List.map_append, List.length_append]
                                simp only [List.map_cons, List.map_nil, List.length_singleton]
                                rw [HSV.out]
                                simpa [ints] using own9
                              · have := hg9.size
                                simp at this
                                omega
                            case measure => simp [intOf]; omega
                          · have c2 : (((a : Int) - (b : Int)) == (w : Int)) = false := by rw [beq_eq_false_iff_ne]; omega
                            by_cases hw2 : b = a + w
                            · have c3 : (((b : Int) - (a : Int)) == (w : Int)) = true := by rw [beq_iff_eq]; omega
                              have HSV : Hid (signOf w a b = 1 - 2 * (mm : Int)) := hide (by rw [hsv]; rw [if_pos ⟨rfl, .inr hw2⟩])
                              clear hsv
                              try clear ha1
                              try clear ha2
                              try clear hw1
                              try clear hw2
                              try clear hmm
                              try clear hdd
                              go_wp2_with fail
                              go_quiet (fail)
                              go_wp2_with fail
                              go_quiet (fail)
                              go_wp2_with fail
                              go_quiet (fail)
                              go_wp2_with ((at_builtin; refine put_own rfl (.tmp 99) (.tmp 101) rfl Tryd.underlying35 elem_int' rfl ((own_drewN HRO.out _).alloc _) rfl (m := 1) (news := [.int .i64 (1 - 2 * (mm : Int))]) rfl (row_new _ _ _ rfl) (by simp [Value.oneCell']) (by omega) (by omega) (by simp; omega) ?_; intro v9 w9 own9 hg9 ho9))
                              go_roundw
                              case rel =>
                                refine ⟨b + 1, hbl, rfl, ?_, by rw [HOD.out]; simp; omega, own_other ((own_drewN HHO.out _).alloc _) (fun j e => by have := zh.out j e; have := ZD.out; omega) ((own_drewN HRO.out _).alloc _) (Nat.le_refl _) hg9, ((rows_drewN HRR.out _).kept (World.grownBy_alloc _ _ none) (fun i hi => by simp)).kept hg9 (fun i hi e => by have h1 := hrb.out _ e; have h2 := zl.out i hi; have := ZD.out; omega), below_grown ((below_drewN HBB.out _).alloc zi _) (by simp; omega) ((own_drewN HRO.out _).alloc _) zw hg9, ?_⟩
                                · rw [HOD.out, List.map_append, List.length_append]
                                  simp only [List.map_cons, List.map_nil, List.length_singleton]
                                  rw [HSV.out]
                                  simpa [ints] using own9
                                · have := hg9.size
                                  simp at this
                                  omega
                              case measure => simp [intOf]; omega
                            · have c3 : (((b : Int) - (a : Int)) == (w : Int)) = false := by rw [beq_eq_false_iff_ne]; omega
                              have HSV : Hid (signOf w a b = 1) := hide (by rw [hsv]; rw [if_neg (by rintro ⟨_, h | h⟩ <;> contradiction)]; rw [if_pos ⟨rfl, .inr ha2⟩])
                              clear hsv
                              try clear ha1
                              try clear ha2
                              try clear hw1
                              try clear hw2
                              try clear hmm
                              try clear hdd
                              go_wp2_with fail
                              go_quiet (fail)
                              go_wp2_with fail
                              go_quiet (fail)
                              go_wp2_with fail
                              go_quiet (fail)
                              go_wp2_with ((at_builtin; refine put_own rfl (.tmp 99) (.tmp 101) rfl Tryd.underlying35 elem_int' rfl ((own_drewN HRO.out _).alloc _) rfl (m := 1) (news := [.int .i64 (1)]) rfl (row_new _ _ _ rfl) (by simp [Value.oneCell']) (by omega) (by omega) (by simp; omega) ?_; intro v9 w9 own9 hg9 ho9))
                              go_roundw
                              case rel =>
                                refine ⟨b + 1, hbl, rfl, ?_, by rw [HOD.out]; simp; omega, own_other ((own_drewN HHO.out _).alloc _) (fun j e => by have := zh.out j e; have := ZD.out; omega) ((own_drewN HRO.out _).alloc _) (Nat.le_refl _) hg9, ((rows_drewN HRR.out _).kept (World.grownBy_alloc _ _ none) (fun i hi => by simp)).kept hg9 (fun i hi e => by have h1 := hrb.out _ e; have h2 := zl.out i hi; have := ZD.out; omega), below_grown ((below_drewN HBB.out _).alloc zi _) (by simp; omega) ((own_drewN HRO.out _).alloc _) zw hg9, ?_⟩
                                · rw [HOD.out, List.map_append, List.length_append]
                                  simp only [List.map_cons, List.map_nil, List.length_singleton]
                                  rw [HSV.out]
                                  simpa [ints] using own9
                                · have := hg9.size
                                  simp at this
                                  omega
                              case measure => simp [intOf]; omega
                        · have c1 : ((ma : Int) == (mb : Int)) = false := by rw [beq_eq_false_iff_ne]; omega
                          have HSV : Hid (signOf w a b = 1) := hide (by rw [hsv]; rw [if_neg (fun h => hmm h.1)]; rw [if_pos ⟨rfl, .inr ha2⟩])
                          clear hsv
                          try clear ha1
                          try clear ha2
                          try clear hw1
                          try clear hw2
                          try clear hmm
                          try clear hdd
                          go_wp2_with fail
                          go_quiet (fail)
                          go_wp2_with fail
                          go_quiet (fail)
                          go_wp2_with fail
                          go_quiet (fail)
                          go_wp2_with ((at_builtin; refine put_own rfl (.tmp 99) (.tmp 101) rfl Tryd.underlying35 elem_int' rfl ((own_drewN HRO.out _).alloc _) rfl (m := 1) (news := [.int .i64 (1)]) rfl (row_new _ _ _ rfl) (by simp [Value.oneCell']) (by omega) (by omega) (by simp; omega) ?_; intro v9 w9 own9 hg9 ho9))
                          go_roundw
                          case rel =>
                            refine ⟨b + 1, hbl, rfl, ?_, by rw [HOD.out]; simp; omega, own_other ((own_drewN HHO.out _).alloc _) (fun j e => by have := zh.out j e; have := ZD.out; omega) ((own_drewN HRO.out _).alloc _) (Nat.le_refl _) hg9, ((rows_drewN HRR.out _).kept (World.grownBy_alloc _ _ none) (fun i hi => by simp)).kept hg9 (fun i hi e => by have h1 := hrb.out _ e; have h2 := zl.out i hi; have := ZD.out; omega), below_grown ((below_drewN HBB.out _).alloc zi _) (by simp; omega) ((own_drewN HRO.out _).alloc _) zw hg9, ?_⟩
                            · rw [HOD.out, List.map_append, List.length_append]
                              simp only [List.map_cons, List.map_nil, List.length_singleton]
                              rw [HSV.out]
                              simpa [ints] using own9
                            · have := hg9.size
                              simp at this
                              omega
                          case measure => simp [intOf]; omega
                      · have b3 : (((b : Int) - (a : Int)) == 1) = false := by rw [beq_eq_false_iff_ne]; omega
                        by_cases hmm : ma = mb
                        · subst hmm
                          have c1 : ((ma : Int) == (ma : Int)) = true := by simp
                          by_cases hw1 : a = b + w
                          · have c2 : (((a : Int) - (b : Int)) == (w : Int)) = true := by rw [beq_iff_eq]; omega
                            have HSV : Hid (signOf w a b = 1 - 2 * (mm : Int)) := hide (by rw [hsv]; rw [if_pos ⟨rfl, .inl hw1⟩])
                            clear hsv
                            try clear ha1
                            try clear ha2
                            try clear hw1
                            try clear hw2
                            try clear hmm
                            try clear hdd
                            go_wp2_with fail
                            go_quiet (fail)
                            go_wp2_with fail
                            go_quiet (fail)
                            go_wp2_with fail
                            go_quiet (fail)
                            go_wp2_with ((at_builtin; refine put_own rfl (.tmp 99) (.tmp 101) rfl Tryd.underlying35 elem_int' rfl ((own_drewN HRO.out _).alloc _) rfl (m := 1) (news := [.int .i64 (1 - 2 * (mm : Int))]) rfl (row_new _ _ _ rfl) (by simp [Value.oneCell']) (by omega) (by omega) (by simp; omega) ?_; intro v9 w9 own9 hg9 ho9))
                            go_roundw
                            case rel =>
                              refine ⟨b + 1, hbl, rfl, ?_, by rw [HOD.out]; simp; omega, own_other ((own_drewN HHO.out _).alloc _) (fun j e => by have := zh.out j e; have := ZD.out; omega) ((own_drewN HRO.out _).alloc _) (Nat.le_refl _) hg9, ((rows_drewN HRR.out _).kept (World.grownBy_alloc _ _ none) (fun i hi => by simp)).kept hg9 (fun i hi e => by have h1 := hrb.out _ e; have h2 := zl.out i hi; have := ZD.out; omega), below_grown ((below_drewN HBB.out _).alloc zi _) (by simp; omega) ((own_drewN HRO.out _).alloc _) zw hg9, ?_⟩
                              · rw [HOD.out, List.map_append, List.length_append]
                                simp only [List.map_cons, List.map_nil, List.length_singleton]
                                rw [HSV.out]
                                simpa [ints] using own9
                              · have := hg9.size
                                simp at this
                                omega
                            case measure => simp [intOf]; omega
                          · have c2 : (((a : Int) - (b : Int)) == (w : Int)) = false := by rw [beq_eq_false_iff_ne]; omega
                            by_cases hw2 : b = a + w
                            · have c3 : (((b : Int) - (a : Int)) == (w : Int)) = true := by rw [beq_iff_eq]; omega
                              have HSV : Hid (signOf w a b = 1 - 2 * (mm : Int)) := hide (by rw [hsv]; rw [if_pos ⟨rfl, .inr hw2⟩])
                              clear hsv
                              try clear ha1
                              try clear ha2
                              try clear hw1
                              try clear hw2
                              try clear hmm
                              try clear hdd
                              go_wp2_with fail
                              go_quiet (fail)
                              go_wp2_with fail
                              go_quiet (fail)
                              go_wp2_with fail
                              go_quiet (fail)
                              go_wp2_with ((at_builtin; refine put_own rfl (.tmp 99) (.tmp 101) rfl Tryd.underlying35 elem_int' rfl ((own_drewN HRO.out _).alloc _) rfl (m := 1) (news := [.int .i64 (1 - 2 * (mm : Int))]) rfl (row_new _ _ _ rfl) (by simp [Value.oneCell']) (by omega) (by omega) (by simp; omega) ?_; intro v9 w9 own9 hg9 ho9))
                              go_roundw
                              case rel =>
                                refine ⟨b + 1, hbl, rfl, ?_, by rw [HOD.out]; simp; omega, own_other ((own_drewN HHO.out _).alloc _) (fun j e => by have := zh.out j e; have := ZD.out; omega) ((own_drewN HRO.out _).alloc _) (Nat.le_refl _) hg9, ((rows_drewN HRR.out _).kept (World.grownBy_alloc _ _ none) (fun i hi => by simp)).kept hg9 (fun i hi e => by have h1 := hrb.out _ e; have h2 := zl.out i hi; have := ZD.out; omega), below_grown ((below_drewN HBB.out _).alloc zi _) (by simp; omega) ((own_drewN HRO.out _).alloc _) zw hg9, ?_⟩
                                · rw [HOD.out, List.map_append, List.length_append]
                                  simp only [List.map_cons, List.map_nil, List.length_singleton]
                                  rw [HSV.out]
                                  simpa [ints] using own9
                                · have := hg9.size
                                  simp at this
                                  omega
                              case measure => simp [intOf]; omega
                            · have c3 : (((b : Int) - (a : Int)) == (w : Int)) = false := by rw [beq_eq_false_iff_ne]; omega
                              have HSV : Hid (signOf w a b = 0) := hide (by rw [hsv]; rw [if_neg (by rintro ⟨_, h | h⟩ <;> contradiction)]; rw [if_neg (by rintro ⟨_, h | h⟩ <;> contradiction)])
                              clear hsv
                              try clear ha1
                              try clear ha2
                              try clear hw1
                              try clear hw2
                              try clear hmm
                              try clear hdd
                              go_wp2_with fail
                              go_quiet (fail)
                              go_wp2_with fail
                              go_quiet (fail)
                              go_wp2_with fail
                              go_quiet (fail)
                              go_wp2_with ((at_builtin; refine put_own rfl (.tmp 99) (.tmp 101) rfl Tryd.underlying35 elem_int' rfl ((own_drewN HRO.out _).alloc _) rfl (m := 1) (news := [.int .i64 (0)]) rfl (row_new _ _ _ rfl) (by simp [Value.oneCell']) (by omega) (by omega) (by simp; omega) ?_; intro v9 w9 own9 hg9 ho9))
                              go_roundw
                              case rel =>
                                refine ⟨b + 1, hbl, rfl, ?_, by rw [HOD.out]; simp; omega, own_other ((own_drewN HHO.out _).alloc _) (fun j e => by have := zh.out j e; have := ZD.out; omega) ((own_drewN HRO.out _).alloc _) (Nat.le_refl _) hg9, ((rows_drewN HRR.out _).kept (World.grownBy_alloc _ _ none) (fun i hi => by simp)).kept hg9 (fun i hi e => by have h1 := hrb.out _ e; have h2 := zl.out i hi; have := ZD.out; omega), below_grown ((below_drewN HBB.out _).alloc zi _) (by simp; omega) ((own_drewN HRO.out _).alloc _) zw hg9, ?_⟩
                                · rw [HOD.out, List.map_append, List.length_append]
                                  simp only [List.map_cons, List.map_nil, List.length_singleton]
                                  rw [HSV.out]
                                  simpa [ints] using own9
                                · have := hg9.size
                                  simp at this
                                  omega
                              case measure => simp [intOf]; omega
                        · have c1 : ((ma : Int) == (mb : Int)) = false := by rw [beq_eq_false_iff_ne]; omega
                          have HSV : Hid (signOf w a b = 0) := hide (by rw [hsv]; rw [if_neg (fun h => hmm h.1)]; rw [if_neg (by rintro ⟨_, h | h⟩ <;> contradiction)])
                          clear hsv
                          try clear ha1
                          try clear ha2
                          try clear hw1
                          try clear hw2
                          try clear hmm
                          try clear hdd
                          go_wp2_with fail
                          go_quiet (fail)
                          go_wp2_with fail
                          go_quiet (fail)
                          go_wp2_with fail
                          go_quiet (fail)
                          go_wp2_with ((at_builtin; refine put_own rfl (.tmp 99) (.tmp 101) rfl Tryd.underlying35 elem_int' rfl ((own_drewN HRO.out _).alloc _) rfl (m := 1) (news := [.int .i64 (0)]) rfl (row_new _ _ _ rfl) (by simp [Value.oneCell']) (by omega) (by omega) (by simp; omega) ?_; intro v9 w9 own9 hg9 ho9))
                          go_roundw
                          case rel =>
                            refine ⟨b + 1, hbl, rfl, ?_, by rw [HOD.out]; simp; omega, own_other ((own_drewN HHO.out _).alloc _) (fun j e => by have := zh.out j e; have := ZD.out; omega) ((own_drewN HRO.out _).alloc _) (Nat.le_refl _) hg9, ((rows_drewN HRR.out _).kept (World.grownBy_alloc _ _ none) (fun i hi => by simp)).kept hg9 (fun i hi e => by have h1 := hrb.out _ e; have h2 := zl.out i hi; have := ZD.out; omega), below_grown ((below_drewN HBB.out _).alloc zi _) (by simp; omega) ((own_drewN HRO.out _).alloc _) zw hg9, ?_⟩
                            · rw [HOD.out, List.map_append, List.length_append]
                              simp only [List.map_cons, List.map_nil, List.length_singleton]
                              rw [HSV.out]
                              simpa [ints] using own9
                            · have := hg9.size
                              simp at this
                              omega
                          case measure => simp [intOf]; omega
                  · have b1 : ((da : Int) == (db : Int)) = false := by rw [beq_eq_false_iff_ne]; omega
                    by_cases hmm : ma = mb
                    · subst hmm
                      have c1 : ((ma : Int) == (ma : Int)) = true := by simp
                      by_cases hw1 : a = b + w
                      · have c2 : (((a : Int) - (b : Int)) == (w : Int)) = true := by rw [beq_iff_eq]; omega
                        have HSV : Hid (signOf w a b = 1 - 2 * (mm : Int)) := hide (by rw [hsv]; rw [if_pos ⟨rfl, .inl hw1⟩])
                        clear hsv
                        try clear ha1
                        try clear ha2
                        try clear hw1
                        try clear hw2
                        try clear hmm
                        try clear hdd
                        go_wp2_with fail
                        go_quiet (fail)
                        go_wp2_with fail
                        go_quiet (fail)
                        go_wp2_with fail
                        go_quiet (fail)
                        go_wp2_with ((at_builtin; refine put_own rfl (.tmp 99) (.tmp 101) rfl Tryd.underlying35 elem_int' rfl ((own_drewN HRO.out _).alloc _) rfl (m := 1) (news := [.int .i64 (1 - 2 * (mm : Int))]) rfl (row_new _ _ _ rfl) (by simp [Value.oneCell']) (by omega) (by omega) (by simp; omega) ?_; intro v9 w9 own9 hg9 ho9))
                        go_roundw
                        case rel =>
                          refine ⟨b + 1, hbl, rfl, ?_, by rw [HOD.out]; simp; omega, own_other ((own_drewN HHO.out _).alloc _) (fun j e => by have := zh.out j e; have := ZD.out; omega) ((own_drewN HRO.out _).alloc _) (Nat.le_refl _) hg9, ((rows_drewN HRR.out _).kept (World.grownBy_alloc _ _ none) (fun i hi => by simp)).kept hg9 (fun i hi e => by have h1 := hrb.out _ e; have h2 := zl.out i hi; have := ZD.out; omega), below_grown ((below_drewN HBB.out _).alloc zi _) (by simp; omega) ((own_drewN HRO.out _).alloc _) zw hg9, ?_⟩
                          · rw [HOD.out, List.map_append, List.length_append]
                            simp only [List.map_cons, List.map_nil, List.length_singleton]
                            rw [HSV.out]
                            simpa [ints] using own9
                          · have := hg9.size
                            simp at this
                            omega
                        case measure => simp [intOf]; omega
                      · have c2 : (((a : Int) - (b : Int)) == (w : Int)) = false := by rw [beq_eq_false_iff_ne]; omega
                        by_cases hw2 : b = a + w
                        · have c3 : (((b : Int) - (a : Int)) == (w : Int)) = true := by rw [beq_iff_eq]; omega
                          have HSV : Hid (signOf w a b = 1 - 2 * (mm : Int)) := hide (by rw [hsv]; rw [if_pos ⟨rfl, .inr hw2⟩])
                          clear hsv
                          try clear ha1
                          try clear ha2
                          try clear hw1
                          try clear hw2
                          try clear hmm
                          try clear hdd
                          go_wp2_with fail
                          go_quiet (fail)
                          go_wp2_with fail
                          go_quiet (fail)
                          go_wp2_with fail
                          go_quiet (fail)
                          go_wp2_with ((at_builtin; refine put_own rfl (.tmp 99) (.tmp 101) rfl Tryd.underlying35 elem_int' rfl ((own_drewN HRO.out _).alloc _) rfl (m := 1) (news := [.int .i64 (1 - 2 * (mm : Int))]) rfl (row_new _ _ _ rfl) (by simp [Value.oneCell']) (by omega) (by omega) (by simp; omega) ?_; intro v9 w9 own9 hg9 ho9))
                          go_roundw
                          case rel =>
                            refine ⟨b + 1, hbl, rfl, ?_, by rw [HOD.out]; simp; omega, own_other ((own_drewN HHO.out _).alloc _) (fun j e => by have := zh.out j e; have := ZD.out; omega) ((own_drewN HRO.out _).alloc _) (Nat.le_refl _) hg9, ((rows_drewN HRR.out _).kept (World.grownBy_alloc _ _ none) (fun i hi => by simp)).kept hg9 (fun i hi e => by have h1 := hrb.out _ e; have h2 := zl.out i hi; have := ZD.out; omega), below_grown ((below_drewN HBB.out _).alloc zi _) (by simp; omega) ((own_drewN HRO.out _).alloc _) zw hg9, ?_⟩
                            · rw [HOD.out, List.map_append, List.length_append]
                              simp only [List.map_cons, List.map_nil, List.length_singleton]
                              rw [HSV.out]
                              simpa [ints] using own9
                            · have := hg9.size
                              simp at this
                              omega
                          case measure => simp [intOf]; omega
                        · have c3 : (((b : Int) - (a : Int)) == (w : Int)) = false := by rw [beq_eq_false_iff_ne]; omega
                          have HSV : Hid (signOf w a b = 0) := hide (by rw [hsv]; rw [if_neg (by rintro ⟨_, h | h⟩ <;> contradiction)]; rw [if_neg (fun h => hdd h.1)])
                          clear hsv
                          try clear ha1
                          try clear ha2
                          try clear hw1
                          try clear hw2
                          try clear hmm
                          try clear hdd
                          go_wp2_with fail
                          go_quiet (fail)
                          go_wp2_with fail
                          go_quiet (fail)
                          go_wp2_with fail
                          go_quiet (fail)
                          go_wp2_with ((at_builtin; refine put_own rfl (.tmp 99) (.tmp 101) rfl Tryd.underlying35 elem_int' rfl ((own_drewN HRO.out _).alloc _) rfl (m := 1) (news := [.int .i64 (0)]) rfl (row_new _ _ _ rfl) (by simp [Value.oneCell']) (by omega) (by omega) (by simp; omega) ?_; intro v9 w9 own9 hg9 ho9))
                          go_roundw
                          case rel =>
                            refine ⟨b + 1, hbl, rfl, ?_, by rw [HOD.out]; simp; omega, own_other ((own_drewN HHO.out _).alloc _) (fun j e => by have := zh.out j e; have := ZD.out; omega) ((own_drewN HRO.out _).alloc _) (Nat.le_refl _) hg9, ((rows_drewN HRR.out _).kept (World.grownBy_alloc _ _ none) (fun i hi => by simp)).kept hg9 (fun i hi e => by have h1 := hrb.out _ e; have h2 := zl.out i hi; have := ZD.out; omega), below_grown ((below_drewN HBB.out _).alloc zi _) (by simp; omega) ((own_drewN HRO.out _).alloc _) zw hg9, ?_⟩
                            · rw [HOD.out, List.map_append, List.length_append]
                              simp only [List.map_cons, List.map_nil, List.length_singleton]
                              rw [HSV.out]
                              simpa [ints] using own9
                            · have := hg9.size
                              simp at this
                              omega
                          case measure => simp [intOf]; omega
                    · have c1 : ((ma : Int) == (mb : Int)) = false := by rw [beq_eq_false_iff_ne]; omega
                      have HSV : Hid (signOf w a b = 0) := hide (by rw [hsv]; rw [if_neg (fun h => hmm h.1)]; rw [if_neg (fun h => hdd h.1)])
                      clear hsv
                      try clear ha1
                      try clear ha2
                      try clear hw1
                      try clear hw2
                      try clear hmm
                      try clear hdd
                      go_wp2_with fail
                      go_quiet (fail)
                      go_wp2_with fail
                      go_quiet (fail)
                      go_wp2_with fail
                      go_quiet (fail)
                      go_wp2_with ((at_builtin; refine put_own rfl (.tmp 99) (.tmp 101) rfl Tryd.underlying35 elem_int' rfl ((own_drewN HRO.out _).alloc _) rfl (m := 1) (news := [.int .i64 (0)]) rfl (row_new _ _ _ rfl) (by simp [Value.oneCell']) (by omega) (by omega) (by simp; omega) ?_; intro v9 w9 own9 hg9 ho9))
                      go_roundw
                      case rel =>
                        refine ⟨b + 1, hbl, rfl, ?_, by rw [HOD.out]; simp; omega, own_other ((own_drewN HHO.out _).alloc _) (fun j e => by have := zh.out j e; have := ZD.out; omega) ((own_drewN HRO.out _).alloc _) (Nat.le_refl _) hg9, ((rows_drewN HRR.out _).kept (World.grownBy_alloc _ _ none) (fun i hi => by simp)).kept hg9 (fun i hi e => by have h1 := hrb.out _ e; have h2 := zl.out i hi; have := ZD.out; omega), below_grown ((below_drewN HBB.out _).alloc zi _) (by simp; omega) ((own_drewN HRO.out _).alloc _) zw hg9, ?_⟩
                        · rw [HOD.out, List.map_append, List.length_append]
                          simp only [List.map_cons, List.map_nil, List.length_singleton]
                          rw [HSV.out]
                          simpa [ints] using own9
                        · have := hg9.size
                          simp at this
                          omega
                      case measure => simp [intOf]; omega
              · obtain rfl : n = b := by omega
                have hnn1 : 0 < (odds w n).length := by have h1 := D3.out; have h2 := D4.out; omega
                obtain ⟨br, cr, rfl, hbr⟩ := own_rowv hro hnn1
                have zbr := (hro.lt br rfl).2
                have zi := hbb.size
                have X1 := hide (hro.alloc (.cells #[.slice (some ⟨br, 0, none⟩) (odds w n).length cr] 35))
                have X2 := hide (hho.alloc (.cells #[.slice (some ⟨br, 0, none⟩) (odds w n).length cr] 35))
                have X3 := hide (hrr.kept (World.grownBy_alloc wi (.cells #[.slice (some ⟨br, 0, none⟩) (odds w n).length cr] 35) none) (fun i hi => by simp))
                have X4 := hide (hbb.alloc zi (.cells #[.slice (some ⟨br, 0, none⟩) (odds w n).length cr] 35))
                have zx : wi.heap.size < (wi.alloc (.cells #[.slice (some ⟨br, 0, none⟩) (odds w n).length cr] 35)).heap.size := by simp
                have hMA := hide (show matP w n (a + 1) = matP w n a ++ [(odds w n).map (signOf w a)] by unfold matP; rw [HEV.out, List.map_append]; rfl)
                have hEL := hide (show (evens w (a + 1)).length = (evens w a).length + 1 by rw [HEV.out]; simp)
                clear hro hho hrr hbb
                go_wp2_with ((at_builtin; refine put_own rfl (.tmp 103) (.tmp 105) rfl Tryd.underlying38 elem_rowv rfl X2.out rfl (m := 1) (news := [.slice (some ⟨br, 0, none⟩) (odds w n).length cr]) rfl (row_new _ _ _ rfl) (one_row _ rfl) (by omega) (by omega) X4.out.size ?_; intro v4 w4 own4 hg4 ho4))
                go_roundw
                case rel =>
                  have hblk : ∀ j, (Value.slice Ah ps.length ch).ownBlock = some j → j < wo.heap.size := zh.out
                  have hr4 := X3.out.kept hg4 (fun i hi e => HOF.out i hi e)
                  have ho5 := own_free1 X1.out hg4 (fun e => by
                    have h1 := hblk br e.symm
                    have h2 := ZD.out
                    omega)
                  refine ⟨a + 1, ps ++ [(br, cr)], hlt, rfl, by rw [hEL.out, ← HPL.out]; simp, by simp; omega, by simpa [vsOf] using own4, by rw [hMA.out]; exact hr4.snoc (own_mono ho5 zw) (fun i hi => by have h1 := zl.out i hi; have h2 := ZD.out; omega), fun i hi => ?_, below_grown X4.out X4.out.size X2.out (Nat.le_refl _) hg4⟩
                  have key : ∀ z, z < (wi.alloc (.cells #[.slice (some ⟨br, 0, none⟩) (odds w n).length cr] 35)).heap.size → (Value.slice Ah ps.length ch).ownBlock ≠ some z → v4.ownBlock ≠ some z := fun z h1 h2 e => by
                    rcases ho4 with h | h
                    · exact h2 (h.symm.trans e)
                    · rw [h] at e; injection e with e; omega
                  by_cases e : i < ps.length
                  · rw [List.getElem_append_left e]
                    exact key _ (by have h1 := zl.out i e; have h2 := ZD.out; omega) (HOF.out i e)
                  · have e' : i = ps.length := by simp at hi; omega
                    subst e'
                    rw [List.getElem_append_right (Nat.le_refl _)]
                    simp only [Nat.sub_self, List.getElem_cons_zero]
                    exact key _ (by omega) (fun e => by have h1 := hblk br e; have h2 := ZD.out; omega)
                case measure => simp [intOf]; omega
          · rw [hs] at t3 t4 hev
            have HEV := hide (show evens w (a + 1) = evens w a by rw [hev]; simp)
            clear hev hs
            go_wp2_with fail
            go_quiet (fail)
            go_wp2_with fail
            exact ⟨⟨a + 1, ps, hlt, rfl, by rw [HEV.out]; exact HPL.out, by omega, own_drewN hown _, by unfold matP; rw [HEV.out]; exact rows_drewN hrows _, hoff, below_drewN hb _⟩, by simp [intOf]; omega⟩
        · obtain rfl : n = a := by omega
          have hlen := hrows.len
          have hpn : ps.length = (odds w n).length := by rw [hlen]; exact D3.out.symm
          have hml : List.length (matP w n n) = (odds w n).length := D3.out.symm
          have hd1 := D1.out
          rw [hml] at hd1
          have h1n : 1 ≤ (odds w n).length := by rw [← hml]; exact D4.out
          have h25 : (odds w n).length ≤ 25 := by omega
          obtain ⟨gm, cm, rfl, hgm⟩ := own_rowv hown (by omega)
          have hin : InRows wo (vsOf (odds w n).length ps) (odds w n).length (matP w n n) := ⟨by rw [vsOf_len]; exact hlen, fun i hi => ⟨_, _, vsOf_at (by omega), own_reads (hrows.own i (by omega)), hrows.rowlen i (by omega)⟩⟩
          have HRH := hide (own_reads hown)
          have HDT := hide (fun (w5 : World) (h5 : Below wo.heap.size wo w5) => det_c (some ⟨gm, 0, none⟩) cm (vsOf (odds w n).length ps) (odds w n).length (matP w n n) v w5 hml h1n h25 (HRH.out.below h5) (hin.below h5) D5.out hd1)
          rw [← hpn] at HDT
          have hv2 := D2.out
          have hv3 : -1000000 ≤ v ∧ v ≤ 1000000 := by split at hv2 <;> omega
          obtain ⟨v1, v2⟩ := hv3
          have hmx : max v (-v) = (X : Int) := by split at hv2 <;> omega
          have HMX := hide hmx
          have eneg : IntKind.i64.wrap (-v) = -v := IntWalk.i64_in _ (by omega)
          have HB := hide hb
          clear hown hrows hb hoff hin hd1 hml hlen hpn hv2 hmx
          go_wp2_with fail
          refine (HDT.out _ (Below.refl _ _)).mono ?_
          rintro e w2 ⟨rfl, b2⟩
          go_wp2_with fail
          refine (HDT.out _ b2).mono ?_
          rintro e w3 ⟨rfl, b3⟩
          have b3 := below_then HB.out zo (below_then b2 b2.size b3)
          go_wp2_with fail
          all_goals go_ret
          all_goals refine ⟨?_, b3⟩
          all_goals have hmx := HMX.out
          all_goals first | (show Ending.returned (Value.int .i64 (-v)) = _; congr 2; omega) | (show Ending.returned (Value.int .i64 v) = _; congr 2; omega)
  · have HV := hide (fun w5 => validBoard_no bc br w5 hB)
    have hsp : signsP bc br = -1 := by unfold signsP; rw [if_neg hB]
    rw [hsp]
    clear hsp hB
    go_enter Tryd.func7, Tryd.ntmps7
    go_wp2_with fail
    refine (HV.out _).mono ?_
    rintro e w1' ⟨rfl, rfl⟩
    go_wp2_with fail
    go_ret
    exact ⟨rfl, Below.refl _ _⟩
end Go.Proofs.YtnikgnicjbcbmabDoor
