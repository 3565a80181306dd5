
/-
  The walk of the law FnExactRunDesk, off the program's contract (given): szStringS, toStringS, eqStringS.
-/
import Derived.Test.YtmfdlijkpdgimaaGreatDoorDeskG
import Derived.OwnWalk
namespace Go.Proofs.YtmfdlijkpdgimaaGreatDoor
open Go.RowKit
set_option linter.unusedVariables false

/-- The texts are few, and short. -/
def SzS (lines : List ByteArray) (w : World) (e : Ending) (w' : World) : Prop := ∃ r : Int, e = .returned (.int .i64 r) ∧ Hid (0 ≤ r → lines.length ≤ 1048576 ∧ ∀ i, i < lines.length → (lines[i]?.getD ⟨#[]⟩).size ≤ 1048576) ∧ w = w'
set_option maxHeartbeats 1000000 in
theorem szStringS_c (lines : List ByteArray) (A : Option Addr) (n c : Nat) (w : World) (hn : lines.length = n) (hm : n ≤ maxLen) (hl : ∀ i, i < n → (lines[i]?.getD ⟨#[]⟩).size ≤ maxLen) (hr : Row w A (strsV lines)) :
    Calls Tryz.prog 9 #[.slice A n c, .int .i64 1048576] w (SzS lines w) := by
  have hm2 : n ≤ 9223372036854775807 := by unfold maxLen at hm; omega
  have e1 : IntKind.i64.wrap (1048576 - (n : Int)) = 1048576 - (n : Int) := IntWalk.i64_in _ (by omega)
  by_cases hbig : 1048576 < n
  · have hb : (1048576 - (n : Int)) < 0 := by omega
    go_enter Tryz.func9, Tryz.ntmps9
    go_wp2_with fail
    go_ret
    exact ⟨-1, rfl, fun h => absurd h (by omega), rfl⟩
  · have hb : ¬ (1048576 - (n : Int)) < 0 := by omega
    have HL := hide hl
    have HN := hide hn
    clear hl hn hm hm2
    go_enter Tryz.func9, Tryz.ntmps9
    go_wp2_with fail
    go_loopw [1, 5] (fun lv iv wr => ∃ (k : Nat) (r : Int), k ≤ n ∧ iv = .int .i64 (k : Int) ∧ lv = .int .i64 r ∧ 0 ≤ r ∧ r ≤ 1048576 ∧ Hid (∀ i, i < k → (lines[i]?.getD ⟨#[]⟩).size ≤ 1048576) ∧ w = wr) (fun _ iv _ => n - (intOf iv).toNat)
    case atStart => exact ⟨0, 1048576 - (n : Int), Nat.zero_le _, rfl, rfl, by omega, by omega, fun i hi => absurd hi (by omega), rfl⟩
    case round =>
      obtain ⟨k, r, hk, rfl, rfl, r0, r1, hs, rfl⟩ := hrel
      by_cases hlt : k < n
      · obtain ⟨ad, rfl, u1⟩ := str_row hr (k := k) (by rw [HN.out]; exact hlt)
        have hsz := HL.out k hlt
        unfold maxLen at hsz
        obtain ⟨x, hx⟩ : ∃ x, lines[k]?.getD ⟨#[]⟩ = x := ⟨_, rfl⟩
        rw [hx] at u1 hsz
        have HX := hide hx
        clear hx
        have k0 : (0 : Int) ≤ (k : Int) := by omega
        have k1 : (k : Int) < (n : Int) := by omega
        have e2 : IntKind.i64.wrap (r - (x.size : Int)) = r - (x.size : Int) := IntWalk.i64_in _ (by omega)
        by_cases hneg : r - (x.size : Int) < 0
        · go_wp2_with fail
          go_ret
          exact ⟨-1, rfl, fun h => absurd h (by omega), rfl⟩
        · go_wp2_with fail
          exact ⟨⟨k + 1, r - (x.size : Int), hlt, by go_num, rfl, by omega, by omega, fun i hi => by
            by_cases e : i = k
            · subst e; rw [HX.out]; omega
            · exact hs.out i (by omega), trivial⟩, by simp [intOf]; omega⟩
      · obtain rfl : k = n := by omega
        go_wp2_with fail
        go_ret
        exact ⟨r, rfl, fun _ => ⟨by rw [HN.out]; omega, fun i hi => hs.out i (by rw [← HN.out]; exact hi)⟩, rfl⟩
theorem strs_set (l : List ByteArray) (i : Nat) (x : ByteArray) : (strsV l).set i (.string x) = strsV (l.set i x) := by simp [strsV, List.map_set]
theorem strs_len (l : List ByteArray) : (strsV l).length = l.length := by simp [strsV]
/-- A row of texts that is laid up to k. -/
def fillS (l : List ByteArray) (k : Nat) : List ByteArray := l.take k ++ List.replicate (l.length - k) ⟨#[]⟩
theorem fillS_len (l : List ByteArray) (k : Nat) (h : k ≤ l.length) : (fillS l k).length = l.length := by simp [fillS]; omega
theorem fillS_set (l : List ByteArray) (k : Nat) (h : k < l.length) : (fillS l k).set k (l[k]?.getD ⟨#[]⟩) = fillS l (k + 1) := by
  unfold fillS
  obtain ⟨m, hm⟩ : ∃ m, l.length - k = m + 1 := ⟨l.length - k - 1, by omega⟩
  have hkl : (l.take k).length = k := by simp; omega
  have ht : l.take (k + 1) = l.take k ++ [l[k]?.getD ⟨#[]⟩] := by
    rw [List.take_add_one, List.getElem?_eq_getElem h]
    rfl
  rw [List.set_append_right _ _ (by omega), hkl, Nat.sub_self, hm, List.replicate_succ, List.set_cons_zero, show l.length - (k + 1) = m by omega, ht, List.append_assoc]
  rfl
theorem made_strs {w : World} {base : Nat} {v : Value} {n : Nat} {z : Value} (hz : z.cells = #[z]) (h : w.ownsRow base 9 1 v n (madeCells z.cells (n * 1)).toList) : w.ownsRow base 9 1 v n (List.replicate n z) := by
  rwa [hz, Nat.mul_one, toList_madeCells_one] at h
set_option maxHeartbeats 1000000 in
set_option maxRecDepth 100000 in
theorem toStringS_c (lines : List ByteArray) (A : Option Addr) (n c : Nat) (w : World) (hn : lines.length = n) (hm : n ≤ 1048576) (hr : Row w A (strsV lines)) :
    Calls Tryz.prog 10 #[.slice A n c] w (Owns 9 1 n (strsV lines) w) := by
  obtain ⟨i0, hi0, hz0, hz1, hz2⟩ := info_ofD (P := Tryz.prog) (e := 9) (z := .string ⟨#[]⟩) (size := 1) (bytes := 16) (by kernel_rfl)
  have HSET := hide (fun k (hk : k < n) => show (strsV (fillS lines k)).set k (.string (lines[k]?.getD ⟨#[]⟩)) = strsV (fillS lines (k + 1)) by rw [strs_set, fillS_set _ _ (by omega)])
  have HLEN := hide (fun k (hk : k ≤ n) => show (strsV (fillS lines k)).length = n by rw [strs_len, fillS_len _ _ (by omega), hn])
  have H0 := hide (show strsV (fillS lines 0) = List.replicate n (Value.string ⟨#[]⟩) by simp [strsV, fillS, hn])
  have HALL := hide (show strsV (fillS lines n) = strsV lines by rw [← hn]; simp [fillS])
  have HR := hide hr
  have HN := hide hn
  clear hr hn
  generalize (fun k => strsV (fillS lines k)) = Z at *
  go_enter Tryz.func10, Tryz.ntmps10
  go_wp2_with ((at_make; refine wpList_make_full _ rfl (.tmp 6) (.tmp 6) 23 rfl w.heap.size 9 i0 (.string ⟨#[]⟩) 1 Tryz.underlying23 hi0 hz0 hz1 .i64 .i64 n n n rfl rfl rfl rfl (by rw [hz2]; omega) (by simp [maxLen]; omega) (Nat.le_refl _) ?_
                intro w4 own4 hg4
                have O4 := hide (made_strs rfl own4)
                have B4 := hide ((Below.refl w.heap.size w).grown hg4 (Nat.le_refl _) (fun k h => by cases h))
                clear own4 hg4))
  go_loopw [4] (fun i wr => ∃ k : Nat, k ≤ n ∧ i = .int .i64 (k : Int) ∧ wr.ownsRow w.heap.size 9 1 (.slice (some ⟨w.heap.size, 0, none⟩) n n) n (strsV (fillS lines k)) ∧ Below w.heap.size w wr) (fun i _ => n - (intOf i).toNat)
  case atStart => exact ⟨0, Nat.zero_le _, rfl, by rw [H0.out]; exact O4.out, B4.out⟩
  case round =>
    obtain ⟨k, hk, rfl, hown, hb⟩ := hrel
    obtain ⟨wo, rfl⟩ : ∃ wo : World, wo = wr := ⟨_, rfl⟩
    by_cases hlt : k < n
    · obtain ⟨ad, rfl, u1⟩ := str_row (HR.out.below hb) (k := k) (by rw [HN.out]; exact hlt)
      have HSk := hide (HSET.out k hlt)
      have hcj := hown.cellAt k (by omega)
      obtain ⟨y, hy⟩ : ∃ y, (strsV (fillS lines k))[k]? = some y := ⟨_, List.getElem?_eq_getElem (by rw [HLEN.out k hk]; exact hlt)⟩
      rw [hy] at hcj
      clear hy
      have hfj := hown.frozenAt k
      obtain ⟨ost, gst⟩ := hown.stored k (.string (lines[k]?.getD ⟨#[]⟩))
      rw [HSk.out] at ost
      have S1 := hide ost
      have S2 := hide (hb.grown gst hb.size (fun n e => by injection e with e; omega))
      generalize lines[k]?.getD ⟨#[]⟩ = x at *
      have k0 : (0 : Int) ≤ (k : Int) := by omega
      have k1 : (k : Int) < (n : Int) := by omega
      clear ost gst hown hb
      go_wp2_with fail
      exact ⟨⟨k + 1, hlt, by go_num, S1.out, S2.out⟩, by simp [intOf]; omega⟩
    · obtain rfl : k = n := by omega
      rw [HALL.out] at hown
      go_wp2_with fail
      go_ret
      exact ⟨_, rfl, hown, hb⟩
set_option maxHeartbeats 1000000 in
theorem eqStringS_c (lines : List ByteArray) (A C : Option Addr) (n ca cc : Nat) (w : World) (hn : lines.length = n) (hm : n ≤ 1048576) (ha : Row w A (strsV lines)) (hc : Row w C (strsV lines)) :
    Calls Tryz.prog 11 #[.slice A n ca, .slice C n cc] w (Plain (.bool true) w) := by
  have hl' : ((n : Int) != (n : Int)) = false := by simp
  go_enter Tryz.func11, Tryz.ntmps11
  go_wp2_with fail
  go_loopw [5] (fun i wr => ∃ (k m : Nat), k ≤ n ∧ i = .int .i64 (k : Int) ∧ wr = w.drewN m) (fun i _ => n - (intOf i).toNat)
  case atStart => exact ⟨0, 0, Nat.zero_le _, rfl, rfl⟩
  case round =>
    obtain ⟨k, m, hk, rfl, rfl⟩ := hrel
    by_cases hlt : k < n
    · obtain ⟨ad, rfl, hca⟩ := str_row ha (k := k) (by rw [hn]; exact hlt)
      obtain ⟨ad', rfl, hcc⟩ := str_row hc (k := k) (by rw [hn]; exact hlt)
      generalize lines[k]?.getD ⟨#[]⟩ = x at *
      have k0 : (0 : Int) ≤ (k : Int) := by omega
      have k1 : (k : Int) < (n : Int) := by omega
      have hxl : (x.toList != x.toList) = false := by simp
      go_wp2_with fail
      go_quiet (fail)
      all_goals go_wp2_with fail
      exact ⟨⟨k + 1, m + nq, hlt, by go_num, rfl⟩, by simp [intOf]; omega⟩
    · obtain rfl : k = n := by omega
      go_wp2_with fail
      go_ret
      exact ⟨rfl, below_drewN (Below.refl _ _) _⟩
set_option maxHeartbeats 2000000 in
theorem exactRunDesk_w (T : World → Prop) (hTb : ∀ w w' : World, T w → Below w.heap.size w w' → T w') (D : DeskF) (Q : Int → Int → List Int) (hS : DeskS D) (hC : DeskC D Q)
    (HI : ∀ (lines : List ByteArray) (A : Option Addr) (n c : Nat) (w5 : World), T w5 → lines.length = n → (∀ i, i < n → (lines[i]?.getD ⟨#[]⟩).size ≤ 1073741824) → Row w5 A (strsV lines) → Calls Tryz.prog 6 #[.slice A n c] w5 (Plain (.string (deskB D lines)) w5))
    (lines : List ByteArray) (A : Option Addr) (n c : Nat) (w : World) (hT : T w) (hn : lines.length = n) (hm : n ≤ maxLen) (hl : ∀ i, i < n → (lines[i]?.getD ⟨#[]⟩).size ≤ maxLen) (hr : Row w A (strsV lines)) :
    Calls Tryz.prog 4 #[.slice A n c] w (Plain (.bool true) w) := by
  have HZ := hide (szStringS_c lines A n c w hn hm hl hr)
  have HT := hide (fun (h : n ≤ 1048576) (w5 : World) (h5 : Row w5 A (strsV lines)) => toStringS_c lines A n c w5 hn h h5)
  have HM := hide (fun (h : ∀ i, i < n → (lines[i]?.getD ⟨#[]⟩).size ≤ 1048576) (B : Option Addr) (cb : Nat) (w5 : World) (h5 : Row w5 B (strsV lines)) => specRunDesk_c D Q hS hC lines B n cb w5 hn (fun i hi => Nat.le_trans (h i hi) (by decide)) h5)
  have HP := hide (fun (h : ∀ i, i < n → (lines[i]?.getD ⟨#[]⟩).size ≤ 1048576) (B : Option Addr) (cb : Nat) (w5 : World) (t5 : T w5) (h5 : Row w5 B (strsV lines)) => HI lines B n cb w5 t5 hn (fun i hi => Nat.le_trans (h i hi) (by decide)) h5)
  have HE := hide (fun (h : n ≤ 1048576) (B C : Option Addr) (cb cc : Nat) (w5 : World) (h5 : Row w5 B (strsV lines)) (h6 : Row w5 C (strsV lines)) => eqStringS_c lines B C n cb cc w5 hn h h5 h6)
  have HR := hide hr
  have HN := hide hn
  have HTB := hide (fun w5 (b : Below w.heap.size w w5) => hTb w w5 hT b)
  clear hr hn hm hl HI hS hC hTb hT
  generalize deskB D lines = t at *
  have htl : (t.toList != t.toList) = false := by simp
  go_enter Tryz.func4, Tryz.ntmps4
  go_wp2_with fail
  refine HZ.out.mono ?_
  rintro e w1 ⟨r, rfl, hq, rfl⟩
  by_cases hr0 : r < 0
  · go_wp2_with fail
    go_ret
    exact ⟨rfl, Below.refl _ _⟩
  · obtain ⟨q1, q2⟩ := hq.out (by omega)
    rw [HN.out] at q1 q2
    have Q2 := hide q2
    clear q2 hq HZ
    go_wp2_with fail
    refine (HT.out q1 w HR.out).mono ?_
    rintro e w2 ⟨v2, rfl, o2, b2⟩
    obtain ⟨A2, c2, rfl, _, _, r2, _⟩ := own_row o2
    have R2 := hide r2
    have B2 := hide b2
    clear o2 b2 r2
    go_wp2_with fail
    refine (HM.out Q2.out A2 c2 w2 R2.out).mono ?_
    rintro e w3 ⟨rfl, b3⟩
    have B3 := hide (below_then B2.out B2.out.size b3)
    clear b3
    go_wp2_with fail
    refine (HT.out q1 w3 (HR.out.below B3.out)).mono ?_
    rintro e w4 ⟨v4, rfl, o4, b4⟩
    obtain ⟨A4, c4, rfl, _, _, r4, _⟩ := own_row o4
    have R4 := hide r4
    have B4 := hide (below_then B3.out B3.out.size b4)
    clear o4 b4 r4
    go_wp2_with fail
    refine (HP.out Q2.out A4 c4 w4 (HTB.out w4 B4.out) R4.out).mono ?_
    rintro e w5 ⟨rfl, b5⟩
    have R5 := hide (R4.out.below b5)
    have B5 := hide (below_then B4.out B4.out.size b5)
    clear b5
    go_wp2_with fail
    refine (HT.out q1 w5 (HR.out.below B5.out)).mono ?_
    rintro e w6 ⟨v6, rfl, o6, b6⟩
    obtain ⟨A6, c6, rfl, _, _, r6, _⟩ := own_row o6
    have R6 := hide r6
    have R56 := hide (R5.out.below b6)
    have B6 := hide (below_then B5.out B5.out.size b6)
    clear o6 b6 r6
    go_wp2_with fail
    refine (HE.out q1 A4 A6 c4 c6 w6 R56.out R6.out).mono ?_
    rintro e w7 ⟨rfl, b7⟩
    have B7 := hide (below_then B6.out B6.out.size b7)
    clear b7
    go_wp2_with fail
    go_ret
    exact ⟨rfl, B7.out⟩
end Go.Proofs.YtmfdlijkpdgimaaGreatDoor
