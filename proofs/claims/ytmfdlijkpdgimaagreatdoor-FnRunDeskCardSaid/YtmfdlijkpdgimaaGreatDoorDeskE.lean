
/-
  The desk: the model's answer to a line, off the contracts of what it asks (given). Written by tools/gendesk.py.
-/
import Derived.Test.YtmfdlijkpdgimaaGreatDoorDesksM
import Derived.Test.YtmfdlijkpdgimaaGreatDoorSpecM
import Derived.Deep.RegionHeld3
namespace Go.Proofs.YtmfdlijkpdgimaaGreatDoor
open Go.RowKit
set_option linter.unusedVariables false

/-- The model's functions that a desk asks do as D says. -/
structure DeskC (D : DeskF) (Q : Int → Int → List Int) : Prop where
  cells : ∀ (w h : Int) (k : ByteArray) (x : Int) (O : Option Addr) (oc : Nat) (W : World), Brd w h → pieceB k.toList = true → 0 ≤ x → x < w * h → Calls Tryz.prog 30 #[.int .i64 w, .int .i64 h, .string k, .int .i64 x, .slice O 0 oc] W (Owns 3 1 (D.cells w h k x).length (ints (D.cells w h k x)) W)
  tiles : ∀ (w h : Int) (n : Nat) (A : Option Addr) (c : Nat) (W : World), Brd w h → (n : Int) = w * h → Row W A (List.replicate n (.bool false)) → Calls Tryz.prog 31 #[.int .i64 w, .int .i64 h, .slice A n c, .int .i64 0] W (Plain (.int .i64 (D.tiles w h)) W)
  lit : ∀ (w h x : Int) (W : World), Calls Tryz.prog 32 #[.int .i64 w, .int .i64 h, .int .i64 x] W fun e W' => e = .returned (.bool (D.lit w h x)) ∧ W = W'
  darks : ∀ (w h x : Int) (W : World), Calls Tryz.prog 33 #[.int .i64 w, .int .i64 h, .int .i64 x] W (Plain (.int .i64 (D.darks w h x)) W)
  peg : ∀ (w h x : Int) (W : World), Calls Tryz.prog 34 #[.int .i64 w, .int .i64 h, .int .i64 x] W fun e W' => e = .returned (.bool (D.peg w h x)) ∧ W = W'
  pegs : ∀ (w h x : Int) (W : World), Calls Tryz.prog 35 #[.int .i64 w, .int .i64 h, .int .i64 x] W (Plain (.int .i64 (D.pegs w h x)) W)
  sets : ∀ (w h : Int) (W : World), Brd w h → w * h ≤ 9 → Calls Tryz.prog 37 #[.int .i64 w, .int .i64 h, .string ⟨#[107, 105, 110, 103]⟩] W (Owns 3 1 (Q w h).length (ints (Q w h)) W)
  folds : ∀ (w h : Int) (A : Option Addr) (c : Nat) (W : World), Brd w h → w * h ≤ 9 → Row W A (ints (Q w h)) → Calls Tryz.prog 36 #[.slice A (Q w h).length c] W (Owns 3 1 (D.folds w h).length (ints (D.folds w h)) W)
def Answers (t : ByteArray × Int × Int) (w : World) (e : Ending) (w' : World) : Prop := ∃ (g c : Nat), e = .returned (.tuple #[.string t.1, .slice (some ⟨g, 0, none⟩) 2 c]) ∧ Row w' (some ⟨g, 0, none⟩) (ints [t.2.1, t.2.2]) ∧ Below w.heap.size w w'
theorem row_two {w : World} {g : Nat} {x y : Int} (h : Row w (some ⟨g, 0, none⟩) (ints [x, y])) : w.cell? ⟨g, 0, none⟩ = some (.int .i64 x) ∧ w.cell? ⟨g, 1, none⟩ = some (.int .i64 y) := by
  obtain ⟨ad, e, h0⟩ := h.int (k := 0) (by simp)
  obtain ⟨ad', e', h1⟩ := h.int (k := 1) (by simp)
  injection e with e
  injection e' with e'
  subst e e'
  exact ⟨h0, h1⟩
theorem split_pos (s : ByteArray) (c : Nat) : 0 < (splitB s c).length := by
  unfold splitB
  simp
theorem nth_row {w : World} {g : Nat} {N : List Int} (h : Row w (some ⟨g, 0, none⟩) (ints N)) {k : Nat} (hk : k < N.length) : w.cell? ⟨g, k, none⟩ = some (.int .i64 (nth N k)) := by
  obtain ⟨ad, e, h0⟩ := h.int (k := k) hk
  injection e with e
  subst e
  have : (Addr.add ⟨g, 0, none⟩ k) = (⟨g, k, none⟩ : Addr) := by
    simp [Addr.add]
    try omega
  rw [this] at h0
  exact h0
theorem str_row {w : World} {A : Option Addr} {L : List ByteArray} (h : Row w A (strsV L)) {k : Nat} (hk : k < L.length) : ∃ ad, A = some ad ∧ w.cell? (ad.add k) = some (.string (L[k]?.getD ⟨#[]⟩)) := by
  obtain ⟨ad, e, hc⟩ := h.at_ (k := k) (by simpa [strsV] using hk)
  refine ⟨ad, e, ?_⟩
  rw [hc]
  simp [strsV, List.getElem?_eq_getElem hk]
theorem made_boolsD {w : World} {base : Nat} {v : Value} {n : Nat} {z : Value} (hz : z.cells = #[z]) (h : w.ownsRow base 4 1 v n (madeCells z.cells (n * 1)).toList) : w.ownsRow base 4 1 v n (List.replicate n z) := by
  rwa [hz, Nat.mul_one, toList_madeCells_one] at h
theorem info_ofD {P : Program} {e : TypeId} {z : Value} {size bytes : Nat} (h : (P.info? e).map (fun i => (i.zero, i.size, i.bytes)) = some (some z, size, bytes)) : ∃ i, P.info? e = some i ∧ i.zero = some z ∧ i.size = size ∧ i.bytes = bytes := by
  cases hi : P.info? e with
  | none => simp [hi] at h
  | some i =>
    simp only [hi, Option.map_some, Option.some.injEq, Prod.mk.injEq] at h
    exact ⟨i, rfl, h.1, h.2.1, h.2.2⟩
theorem ext_size (s : ByteArray) (i j : Nat) : (s.extract i j).size ≤ s.size := by
  rw [ByteArray.size_extract]
  omega
theorem cut_small (s : ByteArray) (c : Nat) : ∀ i, ∀ p ∈ (cutTo s c i).1, p.size ≤ s.size
  | 0, p, h => by simp [cutTo] at h
  | i + 1, p, h => by
    unfold cutTo at h
    split at h
    · rcases List.mem_append.1 h with h | h
      · exact cut_small s c i p h
      · rw [List.mem_singleton.1 h]; exact ext_size ..
    · exact cut_small s c i p h
theorem split_small (s : ByteArray) (c : Nat) {B : Nat} (hB : s.size ≤ B) (i : Nat) (hi : i < (splitB s c).length) : ((splitB s c)[i]?.getD ⟨#[]⟩).size ≤ B := by
  refine Nat.le_trans ?_ hB
  have hm : (splitB s c)[i]?.getD ⟨#[]⟩ ∈ splitB s c := by
    rw [List.getElem?_eq_getElem hi, Option.getD_some]
    exact List.getElem_mem hi
  unfold splitB at hm ⊢
  rcases List.mem_append.1 hm with h | h
  · exact cut_small s c _ _ h
  · rw [List.mem_singleton.1 h]; exact ext_size ..
set_option maxHeartbeats 8000000 in
set_option maxRecDepth 100000 in
theorem answer_c (D : DeskF) (Q : Int → Int → List Int) (hS : DeskS D) (hC : DeskC D Q) (bw bh : Int) (hB : Brd bw bh) (line : ByteArray) (hl : line.size ≤ 1073741824) (g c : Nat) (w : World) (hg : g < w.heap.size) (hr : Row w (some ⟨g, 0, none⟩) (ints [bw, bh])) :
    Calls Tryz.prog 21 #[.slice (some ⟨g, 0, none⟩) 2 c, .string line] w (Answers (answerB D bw bh line) w) := by
  have HSP := hide (fun w5 => splitAt_c line 32 w5 hl)
  have HRD := hide (fun (s : ByteArray) (hs : s.size ≤ 1073741824) w5 => readNumber_c s w5 hs)
  have hpos := split_pos line 32
  have hpl : (splitB line 32).length ≤ 1073741825 := by
    unfold splitB
    have := (cut_le line 32 line.size).2
    simp only [List.length_append, List.length_singleton]
    omega
  have hps : ∀ i, i < (splitB line 32).length → ((splitB line 32)[i]?.getD ⟨#[]⟩).size ≤ 1073741824 := split_small line 32 hl
  obtain ⟨W, hW⟩ : ∃ W, splitB line 32 = W := ⟨_, rfl⟩
  have hA : answerB D bw bh line = answerN D bw bh (W[0]?.getD ⟨#[]⟩) ((W.drop 1).map readB) := by unfold answerB; rw [hW]
  rw [hA]
  rw [hW] at HSP hpos hpl hps
  clear hW hA hl
  have HPS := hide hps
  clear hps
  obtain ⟨M, hM⟩ : ∃ M, (W.drop 1).map readB = M := ⟨_, rfl⟩
  have hMl : M.length + 1 = W.length := by rw [← hM]; simp; omega
  have HMi := hide (fun (i : Nat) (hi : i < M.length) => show M[i]?.getD 0 = readB (W[i + 1]?.getD ⟨#[]⟩) by
    rw [← hM] at hi ⊢
    simp only [List.length_map, List.length_drop] at hi
    rw [List.getElem?_map, List.getElem?_drop, Nat.add_comm 1 i, List.getElem?_eq_getElem (show i + 1 < W.length by omega)]
    rfl)
  rw [hM]
  clear hM
  obtain ⟨k, hk⟩ : ∃ k, W[0]?.getD ⟨#[]⟩ = k := ⟨_, rfl⟩
  rw [hk]
  have HK := hide hk
  clear hk
  have HRW := hide hr
  clear hr
  go_enter Tryz.func21, Tryz.ntmps21
  go_wp2_with fail
  refine (HSP.out _).mono ?_
  rintro e w1 ⟨v1, rfl, o1, b1⟩
  obtain ⟨g1, c1, rfl, _, _, R1, _, hg1⟩ := own_one o1 hpos
  have RW := hide (HRW.out.below b1)
  have R1 := hide R1
  have oe := World.ownsRow_made (base := w1.heap.size) (e := 3) (size := 1) w1 #[] 0 (Nat.le_refl _) (by simp [maxLen]) rfl
  have hal := (Below.refl w1.heap.size w1).alloc (Nat.le_refl _) (.cells #[] 3)
  have RW := hide (RW.out.below hal)
  have R1 := hide (R1.out.below hal)
  have BA := hide hal
  have B1 := hide b1
  have OE := hide oe
  have b1s := b1.size
  clear o1 b1 oe HRW HSP
  go_wp2_with fail
  go_loopw [7, 8] (fun nv iv wr => ∃ i : Nat, i ≤ M.length ∧ iv = .int .i64 ((i : Int) + 1) ∧ wr.ownsRow w1.heap.size 3 1 nv i (ints (M.take i)) ∧ Row wr (some ⟨g, 0, none⟩) (ints [bw, bh]) ∧ Row wr (some ⟨g1, 0, none⟩) (strsV W) ∧ Below w1.heap.size w1 wr) (fun _ iv _ => M.length + 1 - (intOf iv).toNat)
  case atStart => exact ⟨0, Nat.zero_le _, rfl, by simpa using OE.out, RW.out, R1.out, BA.out⟩
  case round =>
    obtain ⟨i, hi, rfl, hown, hrw, hr1, hb⟩ := hrel
    obtain ⟨wo, rfl⟩ : ∃ wo : World, wo = wr := ⟨_, rfl⟩
    obtain ⟨A2, c2, rfl, hc1, hc2, _⟩ := own_row hown
    by_cases hlt : i < M.length
    · obtain ⟨ad, hade, u1⟩ := str_row hr1 (k := i + 1) (by omega)
      injection hade with hade
      subst hade
      have u1 : wo.cell? ⟨g1, i + 1, none⟩ = some (.string (W[i + 1]?.getD ⟨#[]⟩)) := by simpa [Addr.add] using u1
      have HRi := hide (fun w5 => HRD.out (W[i + 1]?.getD ⟨#[]⟩) (HPS.out (i + 1) (by omega)) w5)
      have HMe := hide (HMi.out i hlt)
      rw [← HMe.out] at HRi
      have k0 : (0 : Int) ≤ (i : Int) + 1 := by omega
      have k1 : (i : Int) + 1 < (W.length : Int) := by omega
      have k2 : ((i : Int) + 1).toNat = i + 1 := by omega
      have HT := hide (show ints (M.take (i + 1)) = ints (M.take i) ++ [.int .i64 (M[i]?.getD 0)] by rw [take_snoc M i hlt]; simp [ints])
      have OW := hide hown
      have HB := hide hb
      have RW2 := hide hrw
      have R12 := hide hr1
      have e1 : IntKind.i64.wrap ((i : Int) + 1 + 1) = (i : Int) + 1 + 1 := IntWalk.i64_in _ (by omega)
      clear OE RW R1 BA HRD HPS HMi HMe hown hb hrw hr1
      generalize M[i]?.getD 0 = x at *
      generalize W[i + 1]?.getD ⟨#[]⟩ = s at *
      go_wp2_with fail
      refine (HRi.out _).mono ?_
      rintro e w5 ⟨rfl, b5⟩
      have oe := (own_below OW.out b5).alloc (.cells #[.int .i64 x] 3)
      have be := (below_then HB.out HB.out.size b5).alloc (below_then HB.out HB.out.size b5).size (.cells #[.int .i64 x] 3)
      have rw5 := ((RW2.out.below b5).alloc (.cells #[.int .i64 x] 3))
      have r15 := ((R12.out.below b5).alloc (.cells #[.int .i64 x] 3))
      go_wp2_with (first
        | (at_builtin; refine put_own rfl (.tmp 20) (.tmp 26) rfl Tryz.underlying35 elem_int' rfl oe rfl (m := 1) (news := [.int .i64 x]) rfl (row_new _ _ _ rfl) (by simp [Value.oneCell']) (by omega) (by omega) be.size ?_
           intro v3 w3 own3 hg3 ho3
           obtain ⟨A3, c3, rfl, _, _, _, _⟩ := own_row own3))
      have b3 := below_grown be be.size oe (Nat.le_refl _) hg3
      have rw3 := rw5.grown hg3 (fun ad e x => by
        injection e with e
        subst e
        have := (oe.lt _ x).1
        simp only at this
        omega)
      have r13 := r15.grown hg3 (fun ad e x => by
        injection e with e
        subst e
        have := (oe.lt _ x).1
        simp only at this
        omega)
      exact ⟨⟨i + 1, hlt, by go_num, by rw [HT.out]; exact own3, rw3, r13, b3⟩, by simp [intOf]; omega⟩
    · obtain rfl : i = M.length := by omega
      rw [List.take_length] at hown
      obtain ⟨z0, z1⟩ := row_two hrw
      obtain ⟨ad, hade, uk⟩ := str_row hr1 (k := 0) (by omega)
      injection hade with hade
      subst hade
      have uk : wo.cell? ⟨g1, 0, none⟩ = some (.string (W[0]?.getD ⟨#[]⟩)) := uk
      have OW := hide hown
      have RW2 := hide hrw
      have R12 := hide hr1
      have HB := hide (below_then B1.out B1.out.size hb)
      have w0 : (0 : Int) < (W.length : Int) := by omega
      have nlt : ¬ ((M.length : Int) + 1 < (W.length : Int)) := by omega
      obtain ⟨hB1, hB2, hB3, hB4⟩ := hB
      obtain ⟨m1, m2⟩ := mul_bd hB1 hB2 hB3 hB4
      have em : IntKind.i64.wrap (bw * bh) = bw * bh := IntWalk.i64_in _ (by omega)
      have em1 : IntKind.i64.wrap (bw * bh - 1) = bw * bh - 1 := IntWalk.i64_in _ (by omega)
      clear OE RW R1 BA HRD HPS HMi hown hb hrw hr1 hlt
      rw [HK.out] at uk
      by_cases K0 : k.toList = [98, 111, 97, 114, 100]
      · have KK := K0
        have q0 : (k.toList == [98, 111, 97, 114, 100]) = true := by rw [K0]; rfl
        by_cases hl2 : M.length = 2
        · obtain ⟨g2, c3, e2, _, _, R2, _, _⟩ := own_one OW.out (by omega)
          injection e2 with e2 e3 e4
          subst e2 e4
          have u0 := nth_row R2 (k := 0) (by omega)
          have u1 := nth_row R2 (k := 1) (by omega)
          have hM2 : M = [nth M 0, nth M 1] := by
            match M, hl2 with
            | [a, b], _ => rfl
          have hL : ((M.length : Int) == 2) = true := by rw [beq_iff_eq]; omega
          have p0 : (0 : Int) < (M.length : Int) := by omega
          have p1 : (1 : Int) < (M.length : Int) := by omega
          by_cases hBB : Brd (nth M 0) (nth M 1)
          · have HA : Hid (answerN D bw bh k M = (tDone, nth M 0, nth M 1)) := hide <| by
              unfold answerN
              rw [if_pos (by rw [KK]; decide), if_pos ⟨hl2, hBB⟩]
            have HV := hide (fun w5 => (validBoard_yes (nth M 0) (nth M 1) w5 hBB).mono fun e w' h => (⟨h.1, h.2.symm⟩ : e = .returned (.bool true) ∧ w' = w5))
            have R2 := hide R2
            have HM2 := hide hM2
            rw [hl2]
            clear hM2 hBB
            go_wp2_with fail
            go_quiet ((go_at_call 27; exact Calls.quiet_of_same (HV.out _)))
            all_goals go_wp2_with fail
            go_ret2
            exact ⟨g2, c2, by rw [HA.out]; rfl, by rw [HA.out]; have h := R2.out.drewN nq; rw [HM2.out] at h; exact h, below_drewN HB.out _⟩
          · have HA : Hid (answerN D bw bh k M = (tWrong, bw, bh)) := hide <| by
              unfold answerN
              rw [if_pos (by rw [KK]; decide), if_neg (fun h => hBB h.2)]
            have HV := hide (fun w5 => (validBoard_no (nth M 0) (nth M 1) w5 hBB).mono fun e w' h => (⟨h.1, h.2.symm⟩ : e = .returned (.bool false) ∧ w' = w5))
            clear hM2 hBB
            go_wp2_with fail
            go_quiet ((go_at_call 27; exact Calls.quiet_of_same (HV.out _)))
            all_goals go_wp2_with fail
            go_ret2
            exact ⟨g, c, by rw [HA.out]; rfl, by rw [HA.out]; exact RW2.out.drewN _, below_drewN HB.out _⟩
        · have HA : Hid (answerN D bw bh k M = (tWrong, bw, bh)) := hide <| by
            unfold answerN
            rw [if_pos (by rw [KK]; decide), if_neg (fun h => hl2 h.1)]
          have hL : ((M.length : Int) == 2) = false := by rw [beq_eq_false_iff_ne]; omega
          go_wp2_with fail
          go_quiet (fail)
          all_goals go_wp2_with fail
          go_ret2
          exact ⟨g, c, by rw [HA.out]; rfl, by rw [HA.out]; exact RW2.out.drewN _, below_drewN HB.out _⟩
      · skip
        by_cases K1 : k.toList = [107, 105, 110, 103]
        · have KK := K1
          have q0 : (k.toList == [98, 111, 97, 114, 100]) = false := by rw [K1]; rfl
          have q1 : (k.toList == [107, 105, 110, 103]) = true := by rw [K1]; rfl
          by_cases hl1 : M.length = 1
          · obtain ⟨g2, c3, e2, _, _, R2, _, _⟩ := own_one OW.out (by omega)
            injection e2 with e2 e3 e4
            subst e2 e4
            have u0 := nth_row R2 (k := 0) (by omega)
            have hL : ((M.length : Int) == 1) = true := by rw [beq_iff_eq]; omega
            have p0 : (0 : Int) < (M.length : Int) := by omega
            obtain ⟨x, hx⟩ : ∃ x, nth M 0 = x := ⟨_, rfl⟩
            rw [hx] at u0
            have HIN := hide (fun w5 => inRange_c x 0 (bw * bh - 1) w5)
            by_cases hin : 0 ≤ x ∧ x ≤ bw * bh - 1
            · have HA : Hid (answerN D bw bh k M = (listB (D.cells bw bh k x) (D.cells bw bh k x).length, bw, bh)) := hide <| by
                unfold answerN
                rw [if_neg (by rw [KK]; decide), if_pos (by rw [KK]; decide), if_pos ⟨hl1, by rw [hx]; exact hin⟩, hx]
              rw [decide_eq_true hin] at HIN
              have hpb : pieceB k.toList = true := by rw [KK]; decide
              have HSE := hide (fun (O : Option Addr) (oc : Nat) w5 => hC.cells bw bh k x O oc w5 ⟨hB1, hB2, hB3, hB4⟩ hpb hin.1 (by omega))
              have HLT := hide (fun (A' : Option Addr) (c' : Nat) (w5 : World) (h5 : Row w5 A' (ints (D.cells bw bh k x))) => listText_c A' (D.cells bw bh k x) _ c' w5 rfl h5 (by have := (hS.cells bw bh k x).1; omega) (fun i hi => (hS.cells bw bh k x).2 i hi))
              generalize D.cells bw bh k x = L at *
              have HK1 : ∀ {W' : World}, Row W' (some ⟨g1, 0, none⟩) (strsV W) → W'.cell? ⟨g1, 0, none⟩ = some (.string k) := fun {W'} h => by
                obtain ⟨ad, e, h⟩ := str_row h (k := 0) (by omega)
                injection e with e
                subst e
                rw [HK.out] at h
                exact h
              have HK2 : ∀ {W' : World}, Row W' (some ⟨g2, 0, none⟩) (ints M) → W'.cell? ⟨g2, 0, none⟩ = some (.int .i64 x) := fun {W'} h => by
                have := nth_row h (k := 0) (by omega)
                rwa [hx] at this
              have R2D := hide ((R2.drew).alloc (.cells #[] 3))
              have R1D := hide ((R12.out.drew).alloc (.cells #[] 3))
              have RWD := hide ((RW2.out.drew).alloc (.cells #[] 3))
              have HBD := hide (HB.out.drew.alloc HB.out.drew.size (.cells #[] 3))
              have x0 := World.new_ne wo (⟨g1, 0, none⟩ : Addr) (by rw [uk])
              have x1 := World.new_ne wo (⟨g2, 0, none⟩ : Addr) (by rw [u0])
              clear hin hpb hC hS K0
              go_wp2_with fail
              refine (HIN.out _).mono ?_
              rintro e w5 ⟨rfl, rfl⟩
              go_wp2_with fail
              go_region_held3 (fun w' => w'.cell? ⟨g1, 0, none⟩ = some (.string k) ∧ w'.cell? ⟨g2, 0, none⟩ = some (.int .i64 x)) (go_keep)
                (first
                  | (go_at_call 30; refine (HSE.out _ _ _).mono ?_; rintro e w8 ⟨v8, rfl, o8, b8⟩
                     obtain ⟨A8, c8, rfl, _⟩ := own_row o8
                     have R28 := hide (R2D.out.below b8)
                     have R18 := hide (R1D.out.below b8)
                     have r28 := HK2 R28.out
                     have r18 := HK1 R18.out
                     have R8 := hide (own_reads o8)
                     have RW8 := hide (RWD.out.below b8)
                     have HB8 := hide (below_then HBD.out HBD.out.size b8)
                     clear o8 b8)
                  | (go_at_call 29; refine (HLT.out _ _ _ R8.out).mono ?_; rintro e w9 ⟨rfl, b9⟩
                     have r29 := HK2 (R28.out.below b9)
                     have r19 := HK1 (R18.out.below b9)
                     have RW9 := hide (RW8.out.below b9)
                     have HB9 := hide (below_then HB8.out HB8.out.size b9)
                     clear b9))
              go_wp2_with fail
              go_ret2
              exact ⟨g, c, by rw [HA.out]; rfl, by rw [HA.out]; exact RW9.out, HB9.out⟩
            · have HA : Hid (answerN D bw bh k M = (tWrong, bw, bh)) := hide <| by
                unfold answerN
                rw [if_neg (by rw [KK]; decide), if_pos (by rw [KK]; decide), if_neg (fun h => hin (by rw [← hx]; exact h.2))]
              rw [decide_eq_false hin] at HIN
              go_wp2_with fail
              refine (HIN.out _).mono ?_
              rintro e w5 ⟨rfl, rfl⟩
              go_wp2_with fail
              go_ret2
              exact ⟨g, c, by rw [HA.out]; rfl, by rw [HA.out]; exact RW2.out, HB.out⟩
          · have hL : ((M.length : Int) == 1) = false := by rw [beq_eq_false_iff_ne]; omega
            have HA : Hid (answerN D bw bh k M = (tWrong, bw, bh)) := hide <| by
              unfold answerN
              rw [if_neg (by rw [KK]; decide), if_pos (by rw [KK]; decide), if_neg (fun h => hl1 h.1)]
            go_wp2_with fail
            go_ret2
            exact ⟨g, c, by rw [HA.out]; rfl, by rw [HA.out]; exact RW2.out, HB.out⟩
        · skip
          by_cases K2 : k.toList = [107, 110, 105, 103, 104, 116]
          · have KK := K2
            have q0 : (k.toList == [98, 111, 97, 114, 100]) = false := by rw [K2]; rfl
            have q1 : (k.toList == [107, 105, 110, 103]) = false := by rw [K2]; rfl
            have q2 : (k.toList == [107, 110, 105, 103, 104, 116]) = true := by rw [K2]; rfl
            by_cases hl1 : M.length = 1
            · obtain ⟨g2, c3, e2, _, _, R2, _, _⟩ := own_one OW.out (by omega)
              injection e2 with e2 e3 e4
              subst e2 e4
              have u0 := nth_row R2 (k := 0) (by omega)
              have hL : ((M.length : Int) == 1) = true := by rw [beq_iff_eq]; omega
              have p0 : (0 : Int) < (M.length : Int) := by omega
              obtain ⟨x, hx⟩ : ∃ x, nth M 0 = x := ⟨_, rfl⟩
              rw [hx] at u0
              have HIN := hide (fun w5 => inRange_c x 0 (bw * bh - 1) w5)
              by_cases hin : 0 ≤ x ∧ x ≤ bw * bh - 1
              · have HA : Hid (answerN D bw bh k M = (listB (D.cells bw bh k x) (D.cells bw bh k x).length, bw, bh)) := hide <| by
                  unfold answerN
                  rw [if_neg (by rw [KK]; decide), if_pos (by rw [KK]; decide), if_pos ⟨hl1, by rw [hx]; exact hin⟩, hx]
                rw [decide_eq_true hin] at HIN
                have hpb : pieceB k.toList = true := by rw [KK]; decide
                have HSE := hide (fun (O : Option Addr) (oc : Nat) w5 => hC.cells bw bh k x O oc w5 ⟨hB1, hB2, hB3, hB4⟩ hpb hin.1 (by omega))
                have HLT := hide (fun (A' : Option Addr) (c' : Nat) (w5 : World) (h5 : Row w5 A' (ints (D.cells bw bh k x))) => listText_c A' (D.cells bw bh k x) _ c' w5 rfl h5 (by have := (hS.cells bw bh k x).1; omega) (fun i hi => (hS.cells bw bh k x).2 i hi))
                generalize D.cells bw bh k x = L at *
                have HK1 : ∀ {W' : World}, Row W' (some ⟨g1, 0, none⟩) (strsV W) → W'.cell? ⟨g1, 0, none⟩ = some (.string k) := fun {W'} h => by
                  obtain ⟨ad, e, h⟩ := str_row h (k := 0) (by omega)
                  injection e with e
                  subst e
                  rw [HK.out] at h
                  exact h
                have HK2 : ∀ {W' : World}, Row W' (some ⟨g2, 0, none⟩) (ints M) → W'.cell? ⟨g2, 0, none⟩ = some (.int .i64 x) := fun {W'} h => by
                  have := nth_row h (k := 0) (by omega)
                  rwa [hx] at this
                have R2D := hide ((R2.drew).alloc (.cells #[] 3))
                have R1D := hide ((R12.out.drew).alloc (.cells #[] 3))
                have RWD := hide ((RW2.out.drew).alloc (.cells #[] 3))
                have HBD := hide (HB.out.drew.alloc HB.out.drew.size (.cells #[] 3))
                have x0 := World.new_ne wo (⟨g1, 0, none⟩ : Addr) (by rw [uk])
                have x1 := World.new_ne wo (⟨g2, 0, none⟩ : Addr) (by rw [u0])
                clear hin hpb hC hS K0
                go_wp2_with fail
                refine (HIN.out _).mono ?_
                rintro e w5 ⟨rfl, rfl⟩
                go_wp2_with fail
                go_region_held3 (fun w' => w'.cell? ⟨g1, 0, none⟩ = some (.string k) ∧ w'.cell? ⟨g2, 0, none⟩ = some (.int .i64 x)) (go_keep)
                  (first
                    | (go_at_call 30; refine (HSE.out _ _ _).mono ?_; rintro e w8 ⟨v8, rfl, o8, b8⟩
                       obtain ⟨A8, c8, rfl, _⟩ := own_row o8
                       have R28 := hide (R2D.out.below b8)
                       have R18 := hide (R1D.out.below b8)
                       have r28 := HK2 R28.out
                       have r18 := HK1 R18.out
                       have R8 := hide (own_reads o8)
                       have RW8 := hide (RWD.out.below b8)
                       have HB8 := hide (below_then HBD.out HBD.out.size b8)
                       clear o8 b8)
                    | (go_at_call 29; refine (HLT.out _ _ _ R8.out).mono ?_; rintro e w9 ⟨rfl, b9⟩
                       have r29 := HK2 (R28.out.below b9)
                       have r19 := HK1 (R18.out.below b9)
                       have RW9 := hide (RW8.out.below b9)
                       have HB9 := hide (below_then HB8.out HB8.out.size b9)
                       clear b9))
                go_wp2_with fail
                go_ret2
                exact ⟨g, c, by rw [HA.out]; rfl, by rw [HA.out]; exact RW9.out, HB9.out⟩
              · have HA : Hid (answerN D bw bh k M = (tWrong, bw, bh)) := hide <| by
                  unfold answerN
                  rw [if_neg (by rw [KK]; decide), if_pos (by rw [KK]; decide), if_neg (fun h => hin (by rw [← hx]; exact h.2))]
                rw [decide_eq_false hin] at HIN
                go_wp2_with fail
                refine (HIN.out _).mono ?_
                rintro e w5 ⟨rfl, rfl⟩
                go_wp2_with fail
                go_ret2
                exact ⟨g, c, by rw [HA.out]; rfl, by rw [HA.out]; exact RW2.out, HB.out⟩
            · have hL : ((M.length : Int) == 1) = false := by rw [beq_eq_false_iff_ne]; omega
              have HA : Hid (answerN D bw bh k M = (tWrong, bw, bh)) := hide <| by
                unfold answerN
                rw [if_neg (by rw [KK]; decide), if_pos (by rw [KK]; decide), if_neg (fun h => hl1 h.1)]
              go_wp2_with fail
              go_ret2
              exact ⟨g, c, by rw [HA.out]; rfl, by rw [HA.out]; exact RW2.out, HB.out⟩
          · skip
            by_cases K3 : k.toList = [114, 111, 111, 107]
            · have KK := K3
              have q0 : (k.toList == [98, 111, 97, 114, 100]) = false := by rw [K3]; rfl
              have q1 : (k.toList == [107, 105, 110, 103]) = false := by rw [K3]; rfl
              have q2 : (k.toList == [107, 110, 105, 103, 104, 116]) = false := by rw [K3]; rfl
              have q3 : (k.toList == [114, 111, 111, 107]) = true := by rw [K3]; rfl
              by_cases hl1 : M.length = 1
              · obtain ⟨g2, c3, e2, _, _, R2, _, _⟩ := own_one OW.out (by omega)
                injection e2 with e2 e3 e4
                subst e2 e4
                have u0 := nth_row R2 (k := 0) (by omega)
                have hL : ((M.length : Int) == 1) = true := by rw [beq_iff_eq]; omega
                have p0 : (0 : Int) < (M.length : Int) := by omega
                obtain ⟨x, hx⟩ : ∃ x, nth M 0 = x := ⟨_, rfl⟩
                rw [hx] at u0
                have HIN := hide (fun w5 => inRange_c x 0 (bw * bh - 1) w5)
                by_cases hin : 0 ≤ x ∧ x ≤ bw * bh - 1
                · have HA : Hid (answerN D bw bh k M = (listB (D.cells bw bh k x) (D.cells bw bh k x).length, bw, bh)) := hide <| by
                    unfold answerN
                    rw [if_neg (by rw [KK]; decide), if_pos (by rw [KK]; decide), if_pos ⟨hl1, by rw [hx]; exact hin⟩, hx]
                  rw [decide_eq_true hin] at HIN
                  have hpb : pieceB k.toList = true := by rw [KK]; decide
                  have HSE := hide (fun (O : Option Addr) (oc : Nat) w5 => hC.cells bw bh k x O oc w5 ⟨hB1, hB2, hB3, hB4⟩ hpb hin.1 (by omega))
                  have HLT := hide (fun (A' : Option Addr) (c' : Nat) (w5 : World) (h5 : Row w5 A' (ints (D.cells bw bh k x))) => listText_c A' (D.cells bw bh k x) _ c' w5 rfl h5 (by have := (hS.cells bw bh k x).1; omega) (fun i hi => (hS.cells bw bh k x).2 i hi))
                  generalize D.cells bw bh k x = L at *
                  have HK1 : ∀ {W' : World}, Row W' (some ⟨g1, 0, none⟩) (strsV W) → W'.cell? ⟨g1, 0, none⟩ = some (.string k) := fun {W'} h => by
                    obtain ⟨ad, e, h⟩ := str_row h (k := 0) (by omega)
                    injection e with e
                    subst e
                    rw [HK.out] at h
                    exact h
                  have HK2 : ∀ {W' : World}, Row W' (some ⟨g2, 0, none⟩) (ints M) → W'.cell? ⟨g2, 0, none⟩ = some (.int .i64 x) := fun {W'} h => by
                    have := nth_row h (k := 0) (by omega)
                    rwa [hx] at this
                  have R2D := hide ((R2.drew).alloc (.cells #[] 3))
                  have R1D := hide ((R12.out.drew).alloc (.cells #[] 3))
                  have RWD := hide ((RW2.out.drew).alloc (.cells #[] 3))
                  have HBD := hide (HB.out.drew.alloc HB.out.drew.size (.cells #[] 3))
                  have x0 := World.new_ne wo (⟨g1, 0, none⟩ : Addr) (by rw [uk])
                  have x1 := World.new_ne wo (⟨g2, 0, none⟩ : Addr) (by rw [u0])
                  clear hin hpb hC hS K0
                  go_wp2_with fail
                  refine (HIN.out _).mono ?_
                  rintro e w5 ⟨rfl, rfl⟩
                  go_wp2_with fail
                  go_region_held3 (fun w' => w'.cell? ⟨g1, 0, none⟩ = some (.string k) ∧ w'.cell? ⟨g2, 0, none⟩ = some (.int .i64 x)) (go_keep)
                    (first
                      | (go_at_call 30; refine (HSE.out _ _ _).mono ?_; rintro e w8 ⟨v8, rfl, o8, b8⟩
                         obtain ⟨A8, c8, rfl, _⟩ := own_row o8
                         have R28 := hide (R2D.out.below b8)
                         have R18 := hide (R1D.out.below b8)
                         have r28 := HK2 R28.out
                         have r18 := HK1 R18.out
                         have R8 := hide (own_reads o8)
                         have RW8 := hide (RWD.out.below b8)
                         have HB8 := hide (below_then HBD.out HBD.out.size b8)
                         clear o8 b8)
                      | (go_at_call 29; refine (HLT.out _ _ _ R8.out).mono ?_; rintro e w9 ⟨rfl, b9⟩
                         have r29 := HK2 (R28.out.below b9)
                         have r19 := HK1 (R18.out.below b9)
                         have RW9 := hide (RW8.out.below b9)
                         have HB9 := hide (below_then HB8.out HB8.out.size b9)
                         clear b9))
                  go_wp2_with fail
                  go_ret2
                  exact ⟨g, c, by rw [HA.out]; rfl, by rw [HA.out]; exact RW9.out, HB9.out⟩
                · have HA : Hid (answerN D bw bh k M = (tWrong, bw, bh)) := hide <| by
                    unfold answerN
                    rw [if_neg (by rw [KK]; decide), if_pos (by rw [KK]; decide), if_neg (fun h => hin (by rw [← hx]; exact h.2))]
                  rw [decide_eq_false hin] at HIN
                  go_wp2_with fail
                  refine (HIN.out _).mono ?_
                  rintro e w5 ⟨rfl, rfl⟩
                  go_wp2_with fail
                  go_ret2
                  exact ⟨g, c, by rw [HA.out]; rfl, by rw [HA.out]; exact RW2.out, HB.out⟩
              · have hL : ((M.length : Int) == 1) = false := by rw [beq_eq_false_iff_ne]; omega
                have HA : Hid (answerN D bw bh k M = (tWrong, bw, bh)) := hide <| by
                  unfold answerN
                  rw [if_neg (by rw [KK]; decide), if_pos (by rw [KK]; decide), if_neg (fun h => hl1 h.1)]
                go_wp2_with fail
                go_ret2
                exact ⟨g, c, by rw [HA.out]; rfl, by rw [HA.out]; exact RW2.out, HB.out⟩
            · skip
              by_cases K4 : k.toList = [98, 105, 115, 104, 111, 112]
              · have KK := K4
                have q0 : (k.toList == [98, 111, 97, 114, 100]) = false := by rw [K4]; rfl
                have q1 : (k.toList == [107, 105, 110, 103]) = false := by rw [K4]; rfl
                have q2 : (k.toList == [107, 110, 105, 103, 104, 116]) = false := by rw [K4]; rfl
                have q3 : (k.toList == [114, 111, 111, 107]) = false := by rw [K4]; rfl
                have q4 : (k.toList == [98, 105, 115, 104, 111, 112]) = true := by rw [K4]; rfl
                by_cases hl1 : M.length = 1
                · obtain ⟨g2, c3, e2, _, _, R2, _, _⟩ := own_one OW.out (by omega)
                  injection e2 with e2 e3 e4
                  subst e2 e4
                  have u0 := nth_row R2 (k := 0) (by omega)
                  have hL : ((M.length : Int) == 1) = true := by rw [beq_iff_eq]; omega
                  have p0 : (0 : Int) < (M.length : Int) := by omega
                  obtain ⟨x, hx⟩ : ∃ x, nth M 0 = x := ⟨_, rfl⟩
                  rw [hx] at u0
                  have HIN := hide (fun w5 => inRange_c x 0 (bw * bh - 1) w5)
                  by_cases hin : 0 ≤ x ∧ x ≤ bw * bh - 1
                  · have HA : Hid (answerN D bw bh k M = (listB (D.cells bw bh k x) (D.cells bw bh k x).length, bw, bh)) := hide <| by
                      unfold answerN
                      rw [if_neg (by rw [KK]; decide), if_pos (by rw [KK]; decide), if_pos ⟨hl1, by rw [hx]; exact hin⟩, hx]
                    rw [decide_eq_true hin] at HIN
                    have hpb : pieceB k.toList = true := by rw [KK]; decide
                    have HSE := hide (fun (O : Option Addr) (oc : Nat) w5 => hC.cells bw bh k x O oc w5 ⟨hB1, hB2, hB3, hB4⟩ hpb hin.1 (by omega))
                    have HLT := hide (fun (A' : Option Addr) (c' : Nat) (w5 : World) (h5 : Row w5 A' (ints (D.cells bw bh k x))) => listText_c A' (D.cells bw bh k x) _ c' w5 rfl h5 (by have := (hS.cells bw bh k x).1; omega) (fun i hi => (hS.cells bw bh k x).2 i hi))
                    generalize D.cells bw bh k x = L at *
                    have HK1 : ∀ {W' : World}, Row W' (some ⟨g1, 0, none⟩) (strsV W) → W'.cell? ⟨g1, 0, none⟩ = some (.string k) := fun {W'} h => by
                      obtain ⟨ad, e, h⟩ := str_row h (k := 0) (by omega)
                      injection e with e
                      subst e
                      rw [HK.out] at h
                      exact h
                    have HK2 : ∀ {W' : World}, Row W' (some ⟨g2, 0, none⟩) (ints M) → W'.cell? ⟨g2, 0, none⟩ = some (.int .i64 x) := fun {W'} h => by
                      have := nth_row h (k := 0) (by omega)
                      rwa [hx] at this
                    have R2D := hide ((R2.drew).alloc (.cells #[] 3))
                    have R1D := hide ((R12.out.drew).alloc (.cells #[] 3))
                    have RWD := hide ((RW2.out.drew).alloc (.cells #[] 3))
                    have HBD := hide (HB.out.drew.alloc HB.out.drew.size (.cells #[] 3))
                    have x0 := World.new_ne wo (⟨g1, 0, none⟩ : Addr) (by rw [uk])
                    have x1 := World.new_ne wo (⟨g2, 0, none⟩ : Addr) (by rw [u0])
                    clear hin hpb hC hS K0
                    go_wp2_with fail
                    refine (HIN.out _).mono ?_
                    rintro e w5 ⟨rfl, rfl⟩
                    go_wp2_with fail
                    go_region_held3 (fun w' => w'.cell? ⟨g1, 0, none⟩ = some (.string k) ∧ w'.cell? ⟨g2, 0, none⟩ = some (.int .i64 x)) (go_keep)
                      (first
                        | (go_at_call 30; refine (HSE.out _ _ _).mono ?_; rintro e w8 ⟨v8, rfl, o8, b8⟩
                           obtain ⟨A8, c8, rfl, _⟩ := own_row o8
                           have R28 := hide (R2D.out.below b8)
                           have R18 := hide (R1D.out.below b8)
                           have r28 := HK2 R28.out
                           have r18 := HK1 R18.out
                           have R8 := hide (own_reads o8)
                           have RW8 := hide (RWD.out.below b8)
                           have HB8 := hide (below_then HBD.out HBD.out.size b8)
                           clear o8 b8)
                        | (go_at_call 29; refine (HLT.out _ _ _ R8.out).mono ?_; rintro e w9 ⟨rfl, b9⟩
                           have r29 := HK2 (R28.out.below b9)
                           have r19 := HK1 (R18.out.below b9)
                           have RW9 := hide (RW8.out.below b9)
                           have HB9 := hide (below_then HB8.out HB8.out.size b9)
                           clear b9))
                    go_wp2_with fail
                    go_ret2
                    exact ⟨g, c, by rw [HA.out]; rfl, by rw [HA.out]; exact RW9.out, HB9.out⟩
                  · have HA : Hid (answerN D bw bh k M = (tWrong, bw, bh)) := hide <| by
                      unfold answerN
                      rw [if_neg (by rw [KK]; decide), if_pos (by rw [KK]; decide), if_neg (fun h => hin (by rw [← hx]; exact h.2))]
                    rw [decide_eq_false hin] at HIN
                    go_wp2_with fail
                    refine (HIN.out _).mono ?_
                    rintro e w5 ⟨rfl, rfl⟩
                    go_wp2_with fail
                    go_ret2
                    exact ⟨g, c, by rw [HA.out]; rfl, by rw [HA.out]; exact RW2.out, HB.out⟩
                · have hL : ((M.length : Int) == 1) = false := by rw [beq_eq_false_iff_ne]; omega
                  have HA : Hid (answerN D bw bh k M = (tWrong, bw, bh)) := hide <| by
                    unfold answerN
                    rw [if_neg (by rw [KK]; decide), if_pos (by rw [KK]; decide), if_neg (fun h => hl1 h.1)]
                  go_wp2_with fail
                  go_ret2
                  exact ⟨g, c, by rw [HA.out]; rfl, by rw [HA.out]; exact RW2.out, HB.out⟩
              · skip
                by_cases K5 : k.toList = [113, 117, 101, 101, 110]
                · have KK := K5
                  have q0 : (k.toList == [98, 111, 97, 114, 100]) = false := by rw [K5]; rfl
                  have q1 : (k.toList == [107, 105, 110, 103]) = false := by rw [K5]; rfl
                  have q2 : (k.toList == [107, 110, 105, 103, 104, 116]) = false := by rw [K5]; rfl
                  have q3 : (k.toList == [114, 111, 111, 107]) = false := by rw [K5]; rfl
                  have q4 : (k.toList == [98, 105, 115, 104, 111, 112]) = false := by rw [K5]; rfl
                  have q5 : (k.toList == [113, 117, 101, 101, 110]) = true := by rw [K5]; rfl
                  by_cases hl1 : M.length = 1
                  · obtain ⟨g2, c3, e2, _, _, R2, _, _⟩ := own_one OW.out (by omega)
                    injection e2 with e2 e3 e4
                    subst e2 e4
                    have u0 := nth_row R2 (k := 0) (by omega)
                    have hL : ((M.length : Int) == 1) = true := by rw [beq_iff_eq]; omega
                    have p0 : (0 : Int) < (M.length : Int) := by omega
                    obtain ⟨x, hx⟩ : ∃ x, nth M 0 = x := ⟨_, rfl⟩
                    rw [hx] at u0
                    have HIN := hide (fun w5 => inRange_c x 0 (bw * bh - 1) w5)
                    by_cases hin : 0 ≤ x ∧ x ≤ bw * bh - 1
                    · have HA : Hid (answerN D bw bh k M = (listB (D.cells bw bh k x) (D.cells bw bh k x).length, bw, bh)) := hide <| by
                        unfold answerN
                        rw [if_neg (by rw [KK]; decide), if_pos (by rw [KK]; decide), if_pos ⟨hl1, by rw [hx]; exact hin⟩, hx]
                      rw [decide_eq_true hin] at HIN
                      have hpb : pieceB k.toList = true := by rw [KK]; decide
                      have HSE := hide (fun (O : Option Addr) (oc : Nat) w5 => hC.cells bw bh k x O oc w5 ⟨hB1, hB2, hB3, hB4⟩ hpb hin.1 (by omega))
                      have HLT := hide (fun (A' : Option Addr) (c' : Nat) (w5 : World) (h5 : Row w5 A' (ints (D.cells bw bh k x))) => listText_c A' (D.cells bw bh k x) _ c' w5 rfl h5 (by have := (hS.cells bw bh k x).1; omega) (fun i hi => (hS.cells bw bh k x).2 i hi))
                      generalize D.cells bw bh k x = L at *
                      have HK1 : ∀ {W' : World}, Row W' (some ⟨g1, 0, none⟩) (strsV W) → W'.cell? ⟨g1, 0, none⟩ = some (.string k) := fun {W'} h => by
                        obtain ⟨ad, e, h⟩ := str_row h (k := 0) (by omega)
                        injection e with e
                        subst e
                        rw [HK.out] at h
                        exact h
                      have HK2 : ∀ {W' : World}, Row W' (some ⟨g2, 0, none⟩) (ints M) → W'.cell? ⟨g2, 0, none⟩ = some (.int .i64 x) := fun {W'} h => by
                        have := nth_row h (k := 0) (by omega)
                        rwa [hx] at this
                      have R2D := hide ((R2.drew).alloc (.cells #[] 3))
                      have R1D := hide ((R12.out.drew).alloc (.cells #[] 3))
                      have RWD := hide ((RW2.out.drew).alloc (.cells #[] 3))
                      have HBD := hide (HB.out.drew.alloc HB.out.drew.size (.cells #[] 3))
                      have x0 := World.new_ne wo (⟨g1, 0, none⟩ : Addr) (by rw [uk])
                      have x1 := World.new_ne wo (⟨g2, 0, none⟩ : Addr) (by rw [u0])
                      clear hin hpb hC hS K0
                      go_wp2_with fail
                      refine (HIN.out _).mono ?_
                      rintro e w5 ⟨rfl, rfl⟩
                      go_wp2_with fail
                      go_region_held3 (fun w' => w'.cell? ⟨g1, 0, none⟩ = some (.string k) ∧ w'.cell? ⟨g2, 0, none⟩ = some (.int .i64 x)) (go_keep)
                        (first
                          | (go_at_call 30; refine (HSE.out _ _ _).mono ?_; rintro e w8 ⟨v8, rfl, o8, b8⟩
                             obtain ⟨A8, c8, rfl, _⟩ := own_row o8
                             have R28 := hide (R2D.out.below b8)
                             have R18 := hide (R1D.out.below b8)
                             have r28 := HK2 R28.out
                             have r18 := HK1 R18.out
                             have R8 := hide (own_reads o8)
                             have RW8 := hide (RWD.out.below b8)
                             have HB8 := hide (below_then HBD.out HBD.out.size b8)
                             clear o8 b8)
                          | (go_at_call 29; refine (HLT.out _ _ _ R8.out).mono ?_; rintro e w9 ⟨rfl, b9⟩
                             have r29 := HK2 (R28.out.below b9)
                             have r19 := HK1 (R18.out.below b9)
                             have RW9 := hide (RW8.out.below b9)
                             have HB9 := hide (below_then HB8.out HB8.out.size b9)
                             clear b9))
                      go_wp2_with fail
                      go_ret2
                      exact ⟨g, c, by rw [HA.out]; rfl, by rw [HA.out]; exact RW9.out, HB9.out⟩
                    · have HA : Hid (answerN D bw bh k M = (tWrong, bw, bh)) := hide <| by
                        unfold answerN
                        rw [if_neg (by rw [KK]; decide), if_pos (by rw [KK]; decide), if_neg (fun h => hin (by rw [← hx]; exact h.2))]
                      rw [decide_eq_false hin] at HIN
                      go_wp2_with fail
                      refine (HIN.out _).mono ?_
                      rintro e w5 ⟨rfl, rfl⟩
                      go_wp2_with fail
                      go_ret2
                      exact ⟨g, c, by rw [HA.out]; rfl, by rw [HA.out]; exact RW2.out, HB.out⟩
                  · have hL : ((M.length : Int) == 1) = false := by rw [beq_eq_false_iff_ne]; omega
                    have HA : Hid (answerN D bw bh k M = (tWrong, bw, bh)) := hide <| by
                      unfold answerN
                      rw [if_neg (by rw [KK]; decide), if_pos (by rw [KK]; decide), if_neg (fun h => hl1 h.1)]
                    go_wp2_with fail
                    go_ret2
                    exact ⟨g, c, by rw [HA.out]; rfl, by rw [HA.out]; exact RW2.out, HB.out⟩
                · skip
                  by_cases K6 : k.toList = [115, 116, 101, 112]
                  · have KK := K6
                    have q0 : (k.toList == [98, 111, 97, 114, 100]) = false := by rw [K6]; rfl
                    have q1 : (k.toList == [107, 105, 110, 103]) = false := by rw [K6]; rfl
                    have q2 : (k.toList == [107, 110, 105, 103, 104, 116]) = false := by rw [K6]; rfl
                    have q3 : (k.toList == [114, 111, 111, 107]) = false := by rw [K6]; rfl
                    have q4 : (k.toList == [98, 105, 115, 104, 111, 112]) = false := by rw [K6]; rfl
                    have q5 : (k.toList == [113, 117, 101, 101, 110]) = false := by rw [K6]; rfl
                    have q6 : (k.toList == [115, 116, 101, 112]) = true := by rw [K6]; rfl
                    by_cases hl1 : M.length = 1
                    · obtain ⟨g2, c3, e2, _, _, R2, _, _⟩ := own_one OW.out (by omega)
                      injection e2 with e2 e3 e4
                      subst e2 e4
                      have u0 := nth_row R2 (k := 0) (by omega)
                      have hL : ((M.length : Int) == 1) = true := by rw [beq_iff_eq]; omega
                      have p0 : (0 : Int) < (M.length : Int) := by omega
                      obtain ⟨x, hx⟩ : ∃ x, nth M 0 = x := ⟨_, rfl⟩
                      rw [hx] at u0
                      have HIN := hide (fun w5 => inRange_c x 0 (bw * bh - 1) w5)
                      by_cases hin : 0 ≤ x ∧ x ≤ bw * bh - 1
                      · have HA : Hid (answerN D bw bh k M = (listB (D.cells bw bh k x) (D.cells bw bh k x).length, bw, bh)) := hide <| by
                          unfold answerN
                          rw [if_neg (by rw [KK]; decide), if_pos (by rw [KK]; decide), if_pos ⟨hl1, by rw [hx]; exact hin⟩, hx]
                        rw [decide_eq_true hin] at HIN
                        have hpb : pieceB k.toList = true := by rw [KK]; decide
                        have HSE := hide (fun (O : Option Addr) (oc : Nat) w5 => hC.cells bw bh k x O oc w5 ⟨hB1, hB2, hB3, hB4⟩ hpb hin.1 (by omega))
                        have HLT := hide (fun (A' : Option Addr) (c' : Nat) (w5 : World) (h5 : Row w5 A' (ints (D.cells bw bh k x))) => listText_c A' (D.cells bw bh k x) _ c' w5 rfl h5 (by have := (hS.cells bw bh k x).1; omega) (fun i hi => (hS.cells bw bh k x).2 i hi))
                        generalize D.cells bw bh k x = L at *
                        have HK1 : ∀ {W' : World}, Row W' (some ⟨g1, 0, none⟩) (strsV W) → W'.cell? ⟨g1, 0, none⟩ = some (.string k) := fun {W'} h => by
                          obtain ⟨ad, e, h⟩ := str_row h (k := 0) (by omega)
                          injection e with e
                          subst e
                          rw [HK.out] at h
                          exact h
                        have HK2 : ∀ {W' : World}, Row W' (some ⟨g2, 0, none⟩) (ints M) → W'.cell? ⟨g2, 0, none⟩ = some (.int .i64 x) := fun {W'} h => by
                          have := nth_row h (k := 0) (by omega)
                          rwa [hx] at this
                        have R2D := hide ((R2.drew).alloc (.cells #[] 3))
                        have R1D := hide ((R12.out.drew).alloc (.cells #[] 3))
                        have RWD := hide ((RW2.out.drew).alloc (.cells #[] 3))
                        have HBD := hide (HB.out.drew.alloc HB.out.drew.size (.cells #[] 3))
                        have x0 := World.new_ne wo (⟨g1, 0, none⟩ : Addr) (by rw [uk])
                        have x1 := World.new_ne wo (⟨g2, 0, none⟩ : Addr) (by rw [u0])
                        clear hin hpb hC hS K0
                        go_wp2_with fail
                        refine (HIN.out _).mono ?_
                        rintro e w5 ⟨rfl, rfl⟩
                        go_wp2_with fail
                        go_region_held3 (fun w' => w'.cell? ⟨g1, 0, none⟩ = some (.string k) ∧ w'.cell? ⟨g2, 0, none⟩ = some (.int .i64 x)) (go_keep)
                          (first
                            | (go_at_call 30; refine (HSE.out _ _ _).mono ?_; rintro e w8 ⟨v8, rfl, o8, b8⟩
                               obtain ⟨A8, c8, rfl, _⟩ := own_row o8
                               have R28 := hide (R2D.out.below b8)
                               have R18 := hide (R1D.out.below b8)
                               have r28 := HK2 R28.out
                               have r18 := HK1 R18.out
                               have R8 := hide (own_reads o8)
                               have RW8 := hide (RWD.out.below b8)
                               have HB8 := hide (below_then HBD.out HBD.out.size b8)
                               clear o8 b8)
                            | (go_at_call 29; refine (HLT.out _ _ _ R8.out).mono ?_; rintro e w9 ⟨rfl, b9⟩
                               have r29 := HK2 (R28.out.below b9)
                               have r19 := HK1 (R18.out.below b9)
                               have RW9 := hide (RW8.out.below b9)
                               have HB9 := hide (below_then HB8.out HB8.out.size b9)
                               clear b9))
                        go_wp2_with fail
                        go_ret2
                        exact ⟨g, c, by rw [HA.out]; rfl, by rw [HA.out]; exact RW9.out, HB9.out⟩
                      · have HA : Hid (answerN D bw bh k M = (tWrong, bw, bh)) := hide <| by
                          unfold answerN
                          rw [if_neg (by rw [KK]; decide), if_pos (by rw [KK]; decide), if_neg (fun h => hin (by rw [← hx]; exact h.2))]
                        rw [decide_eq_false hin] at HIN
                        go_wp2_with fail
                        refine (HIN.out _).mono ?_
                        rintro e w5 ⟨rfl, rfl⟩
                        go_wp2_with fail
                        go_ret2
                        exact ⟨g, c, by rw [HA.out]; rfl, by rw [HA.out]; exact RW2.out, HB.out⟩
                    · have hL : ((M.length : Int) == 1) = false := by rw [beq_eq_false_iff_ne]; omega
                      have HA : Hid (answerN D bw bh k M = (tWrong, bw, bh)) := hide <| by
                        unfold answerN
                        rw [if_neg (by rw [KK]; decide), if_pos (by rw [KK]; decide), if_neg (fun h => hl1 h.1)]
                      go_wp2_with fail
                      go_ret2
                      exact ⟨g, c, by rw [HA.out]; rfl, by rw [HA.out]; exact RW2.out, HB.out⟩
                  · skip
                    by_cases K7 : k.toList = [116, 105, 108, 101]
                    · have KK := K7
                      have q0 : (k.toList == [98, 111, 97, 114, 100]) = false := by rw [K7]; rfl
                      have q1 : (k.toList == [107, 105, 110, 103]) = false := by rw [K7]; rfl
                      have q2 : (k.toList == [107, 110, 105, 103, 104, 116]) = false := by rw [K7]; rfl
                      have q3 : (k.toList == [114, 111, 111, 107]) = false := by rw [K7]; rfl
                      have q4 : (k.toList == [98, 105, 115, 104, 111, 112]) = false := by rw [K7]; rfl
                      have q5 : (k.toList == [113, 117, 101, 101, 110]) = false := by rw [K7]; rfl
                      have q6 : (k.toList == [115, 116, 101, 112]) = false := by rw [K7]; rfl
                      have q7 : (k.toList == [116, 105, 108, 101]) = true := by rw [K7]; rfl
                      by_cases hl0 : M.length = 0
                      · have hL : ((M.length : Int) == 0) = true := by rw [beq_iff_eq]; omega
                        have HA : Hid (answerN D bw bh k M = (numB (D.tiles bw bh), bw, bh)) := hide <| by
                          unfold answerN
                          rw [if_neg (by rw [KK]; decide), if_neg (by rw [KK]; decide), if_pos (by rw [KK]; decide), if_pos hl0]
                        obtain ⟨n, hn⟩ : ∃ n : Nat, bw * bh = (n : Int) := ⟨(bw * bh).toNat, by omega⟩
                        have em2 : IntKind.i64.wrap (bw * bh) = (n : Int) := em.trans hn
                        have n1 : (0 : Int) ≤ (n : Int) := by omega
                        obtain ⟨i0, hi0, hz0, hz1, hz2⟩ := info_ofD (P := Tryz.prog) (e := 4) (z := .bool false) (size := 1) (bytes := 1) (by kernel_rfl)
                        have HT1 := hide (fun (A' : Option Addr) (c' : Nat) w5 (h5 : Row w5 A' (List.replicate n (.bool false))) => hC.tiles bw bh n A' c' w5 ⟨hB1, hB2, hB3, hB4⟩ hn.symm h5)
                        have HN1 := hide (fun w5 => number_c (D.tiles bw bh) w5 (hS.tiles bw bh).1 (hS.tiles bw bh).2)
                        generalize D.tiles bw bh = z at *
                        have zn : n ≤ 25 := by omega
                        clear hC hS m1 em1 hn em m2
                        go_wp2_with ((at_make; refine wpList_make_full _ rfl (.tmp 94) (.tmp 94) 68 rfl wo.heap.size 4 i0 (.bool false) 1 Tryz.underlying68 hi0 hz0 hz1 .i64 .i64 n n n rfl rfl rfl rfl (by rw [hz2]; omega) (by simp [maxLen]; omega) (Nat.le_refl _) ?_; intro w4 own4 hg4; have own4 := made_boolsD rfl own4; have b4 := (Below.refl wo.heap.size wo).grown hg4 (Nat.le_refl _) (fun k h => by cases h); clear hg4))
                        refine (HT1.out _ _ _ (own_reads own4)).mono ?_
                        rintro e w6 ⟨rfl, b6⟩
                        go_wp2_with fail
                        refine (HN1.out _).mono ?_
                        rintro e w7 ⟨rfl, b7⟩
                        go_wp2_with fail
                        go_ret2
                        have b14 := below_then HB.out HB.out.size b4
                        have b16 := below_then b14 b14.size b6
                        exact ⟨g, c, by rw [HA.out]; rfl, by rw [HA.out]; exact ((RW2.out.below b4).below b6).below b7, below_then b16 b16.size b7⟩
                      · have hL : ((M.length : Int) == 0) = false := by rw [beq_eq_false_iff_ne]; omega
                        have HA : Hid (answerN D bw bh k M = (tWrong, bw, bh)) := hide <| by
                          unfold answerN
                          rw [if_neg (by rw [KK]; decide), if_neg (by rw [KK]; decide), if_pos (by rw [KK]; decide), if_neg (hl0)]
                        go_wp2_with fail
                        go_ret2
                        exact ⟨g, c, by rw [HA.out]; rfl, by rw [HA.out]; exact RW2.out, HB.out⟩
                    · skip
                      by_cases K8 : k.toList = [100, 97, 114, 107]
                      · have KK := K8
                        have q0 : (k.toList == [98, 111, 97, 114, 100]) = false := by rw [K8]; rfl
                        have q1 : (k.toList == [107, 105, 110, 103]) = false := by rw [K8]; rfl
                        have q2 : (k.toList == [107, 110, 105, 103, 104, 116]) = false := by rw [K8]; rfl
                        have q3 : (k.toList == [114, 111, 111, 107]) = false := by rw [K8]; rfl
                        have q4 : (k.toList == [98, 105, 115, 104, 111, 112]) = false := by rw [K8]; rfl
                        have q5 : (k.toList == [113, 117, 101, 101, 110]) = false := by rw [K8]; rfl
                        have q6 : (k.toList == [115, 116, 101, 112]) = false := by rw [K8]; rfl
                        have q7 : (k.toList == [116, 105, 108, 101]) = false := by rw [K8]; rfl
                        have q8 : (k.toList == [100, 97, 114, 107]) = true := by rw [K8]; rfl
                        by_cases hl1 : M.length = 1
                        · obtain ⟨g2, c3, e2, _, _, R2, _, _⟩ := own_one OW.out (by omega)
                          injection e2 with e2 e3 e4
                          subst e2 e4
                          have u0 := nth_row R2 (k := 0) (by omega)
                          have hL : ((M.length : Int) == 1) = true := by rw [beq_iff_eq]; omega
                          have p0 : (0 : Int) < (M.length : Int) := by omega
                          obtain ⟨x, hx⟩ : ∃ x, nth M 0 = x := ⟨_, rfl⟩
                          rw [hx] at u0
                          have HLI := hide (fun w5 => hC.lit bw bh x w5)
                          by_cases hd : D.lit bw bh x = true
                          · have HA : Hid (answerN D bw bh k M = (numB (D.darks bw bh x), bw, bh)) := hide <| by
                              unfold answerN
                              rw [if_neg (by rw [KK]; decide), if_neg (by rw [KK]; decide), if_neg (by rw [KK]; decide), if_pos (by rw [KK]; decide), if_pos ⟨hl1, by rw [hx]; exact hd⟩, hx]
                            rw [hd] at HLI
                            have HD1 := hide (fun w5 => hC.darks bw bh x w5)
                            have HN1 := hide (fun w5 => number_c (D.darks bw bh x) w5 (hS.darks bw bh x).1 (hS.darks bw bh x).2)
                            generalize D.darks bw bh x = z at *
                            clear hd hC hS
                            go_wp2_with fail
                            refine (HLI.out _).mono ?_
                            rintro e w5 ⟨rfl, rfl⟩
                            go_wp2_with fail
                            refine (HD1.out _).mono ?_
                            rintro e w6 ⟨rfl, b6⟩
                            go_wp2_with fail
                            refine (HN1.out _).mono ?_
                            rintro e w7 ⟨rfl, b7⟩
                            go_wp2_with fail
                            go_ret2
                            exact ⟨g, c, by rw [HA.out]; rfl, by rw [HA.out]; exact (RW2.out.below b6).below b7, below_then (below_then HB.out HB.out.size b6) (below_then HB.out HB.out.size b6).size b7⟩
                          · have HA : Hid (answerN D bw bh k M = (tWrong, bw, bh)) := hide <| by
                              unfold answerN
                              rw [if_neg (by rw [KK]; decide), if_neg (by rw [KK]; decide), if_neg (by rw [KK]; decide), if_pos (by rw [KK]; decide), if_neg (fun h => hd (by rw [← hx]; exact h.2))]
                            have hd2 : D.lit bw bh x = false := by simpa using hd
                            rw [hd2] at HLI
                            go_wp2_with fail
                            refine (HLI.out _).mono ?_
                            rintro e w5 ⟨rfl, rfl⟩
                            go_wp2_with fail
                            go_ret2
                            exact ⟨g, c, by rw [HA.out]; rfl, by rw [HA.out]; exact RW2.out, HB.out⟩
                        · have hL : ((M.length : Int) == 1) = false := by rw [beq_eq_false_iff_ne]; omega
                          have HA : Hid (answerN D bw bh k M = (tWrong, bw, bh)) := hide <| by
                            unfold answerN
                            rw [if_neg (by rw [KK]; decide), if_neg (by rw [KK]; decide), if_neg (by rw [KK]; decide), if_pos (by rw [KK]; decide), if_neg (fun h => hl1 h.1)]
                          go_wp2_with fail
                          go_ret2
                          exact ⟨g, c, by rw [HA.out]; rfl, by rw [HA.out]; exact RW2.out, HB.out⟩
                      · skip
                        by_cases K9 : k.toList = [112, 101, 103, 115]
                        · have KK := K9
                          have q0 : (k.toList == [98, 111, 97, 114, 100]) = false := by rw [K9]; rfl
                          have q1 : (k.toList == [107, 105, 110, 103]) = false := by rw [K9]; rfl
                          have q2 : (k.toList == [107, 110, 105, 103, 104, 116]) = false := by rw [K9]; rfl
                          have q3 : (k.toList == [114, 111, 111, 107]) = false := by rw [K9]; rfl
                          have q4 : (k.toList == [98, 105, 115, 104, 111, 112]) = false := by rw [K9]; rfl
                          have q5 : (k.toList == [113, 117, 101, 101, 110]) = false := by rw [K9]; rfl
                          have q6 : (k.toList == [115, 116, 101, 112]) = false := by rw [K9]; rfl
                          have q7 : (k.toList == [116, 105, 108, 101]) = false := by rw [K9]; rfl
                          have q8 : (k.toList == [100, 97, 114, 107]) = false := by rw [K9]; rfl
                          have q9 : (k.toList == [112, 101, 103, 115]) = true := by rw [K9]; rfl
                          by_cases hl1 : M.length = 1
                          · obtain ⟨g2, c3, e2, _, _, R2, _, _⟩ := own_one OW.out (by omega)
                            injection e2 with e2 e3 e4
                            subst e2 e4
                            have u0 := nth_row R2 (k := 0) (by omega)
                            have hL : ((M.length : Int) == 1) = true := by rw [beq_iff_eq]; omega
                            have p0 : (0 : Int) < (M.length : Int) := by omega
                            obtain ⟨x, hx⟩ : ∃ x, nth M 0 = x := ⟨_, rfl⟩
                            rw [hx] at u0
                            have HLI := hide (fun w5 => hC.peg bw bh x w5)
                            by_cases hd : D.peg bw bh x = true
                            · have HA : Hid (answerN D bw bh k M = (numB (D.pegs bw bh x), bw, bh)) := hide <| by
                                unfold answerN
                                rw [if_neg (by rw [KK]; decide), if_neg (by rw [KK]; decide), if_neg (by rw [KK]; decide), if_neg (by rw [KK]; decide), if_pos (by rw [KK]; decide), if_pos ⟨hl1, by rw [hx]; exact hd⟩, hx]
                              rw [hd] at HLI
                              have HD1 := hide (fun w5 => hC.pegs bw bh x w5)
                              have HN1 := hide (fun w5 => number_c (D.pegs bw bh x) w5 (hS.pegs bw bh x).1 (hS.pegs bw bh x).2)
                              generalize D.pegs bw bh x = z at *
                              clear hd hC hS
                              go_wp2_with fail
                              refine (HLI.out _).mono ?_
                              rintro e w5 ⟨rfl, rfl⟩
                              go_wp2_with fail
                              refine (HD1.out _).mono ?_
                              rintro e w6 ⟨rfl, b6⟩
                              go_wp2_with fail
                              refine (HN1.out _).mono ?_
                              rintro e w7 ⟨rfl, b7⟩
                              go_wp2_with fail
                              go_ret2
                              exact ⟨g, c, by rw [HA.out]; rfl, by rw [HA.out]; exact (RW2.out.below b6).below b7, below_then (below_then HB.out HB.out.size b6) (below_then HB.out HB.out.size b6).size b7⟩
                            · have HA : Hid (answerN D bw bh k M = (tWrong, bw, bh)) := hide <| by
                                unfold answerN
                                rw [if_neg (by rw [KK]; decide), if_neg (by rw [KK]; decide), if_neg (by rw [KK]; decide), if_neg (by rw [KK]; decide), if_pos (by rw [KK]; decide), if_neg (fun h => hd (by rw [← hx]; exact h.2))]
                              have hd2 : D.peg bw bh x = false := by simpa using hd
                              rw [hd2] at HLI
                              go_wp2_with fail
                              refine (HLI.out _).mono ?_
                              rintro e w5 ⟨rfl, rfl⟩
                              go_wp2_with fail
                              go_ret2
                              exact ⟨g, c, by rw [HA.out]; rfl, by rw [HA.out]; exact RW2.out, HB.out⟩
                          · have hL : ((M.length : Int) == 1) = false := by rw [beq_eq_false_iff_ne]; omega
                            have HA : Hid (answerN D bw bh k M = (tWrong, bw, bh)) := hide <| by
                              unfold answerN
                              rw [if_neg (by rw [KK]; decide), if_neg (by rw [KK]; decide), if_neg (by rw [KK]; decide), if_neg (by rw [KK]; decide), if_pos (by rw [KK]; decide), if_neg (fun h => hl1 h.1)]
                            go_wp2_with fail
                            go_ret2
                            exact ⟨g, c, by rw [HA.out]; rfl, by rw [HA.out]; exact RW2.out, HB.out⟩
                        · skip
                          by_cases K10 : k.toList = [102, 111, 108, 100]
                          · have KK := K10
                            have q0 : (k.toList == [98, 111, 97, 114, 100]) = false := by rw [K10]; rfl
                            have q1 : (k.toList == [107, 105, 110, 103]) = false := by rw [K10]; rfl
                            have q2 : (k.toList == [107, 110, 105, 103, 104, 116]) = false := by rw [K10]; rfl
                            have q3 : (k.toList == [114, 111, 111, 107]) = false := by rw [K10]; rfl
                            have q4 : (k.toList == [98, 105, 115, 104, 111, 112]) = false := by rw [K10]; rfl
                            have q5 : (k.toList == [113, 117, 101, 101, 110]) = false := by rw [K10]; rfl
                            have q6 : (k.toList == [115, 116, 101, 112]) = false := by rw [K10]; rfl
                            have q7 : (k.toList == [116, 105, 108, 101]) = false := by rw [K10]; rfl
                            have q8 : (k.toList == [100, 97, 114, 107]) = false := by rw [K10]; rfl
                            have q9 : (k.toList == [112, 101, 103, 115]) = false := by rw [K10]; rfl
                            have q10 : (k.toList == [102, 111, 108, 100]) = true := by rw [K10]; rfl
                            by_cases hl0 : M.length = 0
                            · have hL : ((M.length : Int) == 0) = true := by rw [beq_iff_eq]; omega
                              by_cases h9 : bw * bh ≤ 9
                              · have HA : Hid (answerN D bw bh k M = (listB (D.folds bw bh) (D.folds bw bh).length, bw, bh)) := hide <| by
                                  unfold answerN
                                  rw [if_neg (by rw [KK]; decide), if_neg (by rw [KK]; decide), if_neg (by rw [KK]; decide), if_neg (by rw [KK]; decide), if_neg (by rw [KK]; decide), if_pos (by rw [KK]; decide), if_pos ⟨hl0, h9⟩]
                                have HS1 := hide (fun w5 => hC.sets bw bh w5 ⟨hB1, hB2, hB3, hB4⟩ h9)
                                have HF1 := hide (fun (A' : Option Addr) (c' : Nat) w5 (h5 : Row w5 A' (ints (Q bw bh))) => hC.folds bw bh A' c' w5 ⟨hB1, hB2, hB3, hB4⟩ h9 h5)
                                have HLT := hide (fun (A' : Option Addr) (c' : Nat) (w5 : World) (h5 : Row w5 A' (ints (D.folds bw bh))) => listText_c A' (D.folds bw bh) _ c' w5 rfl h5 (by have := (hS.folds bw bh).1; omega) (fun i hi => (hS.folds bw bh).2 i hi))
                                generalize D.folds bw bh = L at *
                                generalize Q bw bh = Z at *
                                clear hC hS
                                go_wp2_with fail
                                refine (HS1.out _).mono ?_
                                rintro e w5 ⟨v5, rfl, o5, b5⟩
                                obtain ⟨A5, c5, rfl, _⟩ := own_row o5
                                go_wp2_with fail
                                refine (HF1.out _ _ _ (own_reads o5)).mono ?_
                                rintro e w6 ⟨v6, rfl, o6, b6⟩
                                obtain ⟨A6, c6, rfl, _⟩ := own_row o6
                                go_wp2_with fail
                                refine (HLT.out _ _ _ (own_reads o6)).mono ?_
                                rintro e w7 ⟨rfl, b7⟩
                                go_wp2_with fail
                                go_ret2
                                have b15 := below_then HB.out HB.out.size b5
                                have b16 := below_then b15 b15.size b6
                                exact ⟨g, c, by rw [HA.out]; rfl, by rw [HA.out]; exact ((RW2.out.below b5).below b6).below b7, below_then b16 b16.size b7⟩
                              · have HA : Hid (answerN D bw bh k M = (tWrong, bw, bh)) := hide <| by
                                  unfold answerN
                                  rw [if_neg (by rw [KK]; decide), if_neg (by rw [KK]; decide), if_neg (by rw [KK]; decide), if_neg (by rw [KK]; decide), if_neg (by rw [KK]; decide), if_pos (by rw [KK]; decide), if_neg (fun h => h9 h.2)]
                                go_wp2_with fail
                                go_ret2
                                exact ⟨g, c, by rw [HA.out]; rfl, by rw [HA.out]; exact RW2.out, HB.out⟩
                            · have hL : ((M.length : Int) == 0) = false := by rw [beq_eq_false_iff_ne]; omega
                              have HA : Hid (answerN D bw bh k M = (tWrong, bw, bh)) := hide <| by
                                unfold answerN
                                rw [if_neg (by rw [KK]; decide), if_neg (by rw [KK]; decide), if_neg (by rw [KK]; decide), if_neg (by rw [KK]; decide), if_neg (by rw [KK]; decide), if_pos (by rw [KK]; decide), if_neg (fun h => hl0 h.1)]
                              go_wp2_with fail
                              go_ret2
                              exact ⟨g, c, by rw [HA.out]; rfl, by rw [HA.out]; exact RW2.out, HB.out⟩
                          · skip
                            have q0 : (k.toList == [98, 111, 97, 114, 100]) = false := beq_eq_false_iff_ne.2 K0
                            have q1 : (k.toList == [107, 105, 110, 103]) = false := beq_eq_false_iff_ne.2 K1
                            have q2 : (k.toList == [107, 110, 105, 103, 104, 116]) = false := beq_eq_false_iff_ne.2 K2
                            have q3 : (k.toList == [114, 111, 111, 107]) = false := beq_eq_false_iff_ne.2 K3
                            have q4 : (k.toList == [98, 105, 115, 104, 111, 112]) = false := beq_eq_false_iff_ne.2 K4
                            have q5 : (k.toList == [113, 117, 101, 101, 110]) = false := beq_eq_false_iff_ne.2 K5
                            have q6 : (k.toList == [115, 116, 101, 112]) = false := beq_eq_false_iff_ne.2 K6
                            have q7 : (k.toList == [116, 105, 108, 101]) = false := beq_eq_false_iff_ne.2 K7
                            have q8 : (k.toList == [100, 97, 114, 107]) = false := beq_eq_false_iff_ne.2 K8
                            have q9 : (k.toList == [112, 101, 103, 115]) = false := beq_eq_false_iff_ne.2 K9
                            have q10 : (k.toList == [102, 111, 108, 100]) = false := beq_eq_false_iff_ne.2 K10
                            have HA : Hid (answerN D bw bh k M = (tWhat, bw, bh)) := hide <| by
                              unfold answerN
                              have hp : ¬ pieceB k.toList = true := by
                                unfold pieceB
                                rw [q1, q2, q3, q4, q5, q6]
                                decide
                              rw [if_neg (show ¬ k.toList = kBoard from K0), if_neg hp, if_neg (show ¬ k.toList = kTile from K7), if_neg (show ¬ k.toList = kDark from K8), if_neg (show ¬ k.toList = kPegs from K9), if_neg (show ¬ k.toList = kFold from K10)]
                            go_wp2_with fail
                            go_ret2
                            exact ⟨g, c, by rw [HA.out]; rfl, by rw [HA.out]; exact RW2.out, HB.out⟩
end Go.Proofs.YtmfdlijkpdgimaaGreatDoor
