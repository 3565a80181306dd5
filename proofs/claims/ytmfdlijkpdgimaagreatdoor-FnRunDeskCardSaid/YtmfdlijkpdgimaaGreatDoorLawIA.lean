
/-
  The walk of the law FnRunDesk, off the contracts of the program's RunDesk, of the drawer and of what the model asks (given).
-/
import Derived.Test.YtmfdlijkpdgimaaGreatDoorDeskQ
import Derived.Test.YtmfdlijkpdgimaaGreatDoorDeskG
namespace Go.Proofs.YtmfdlijkpdgimaaGreatDoor
open Go.RowKit
set_option linter.unusedVariables false

set_option maxHeartbeats 1000000 in
theorem newlines_c (s : ByteArray) (w : World) (hs : s.size ≤ 1073741824) : Calls Tryz.prog 8 #[.string s] w (Plain (.int .i64 ((nlTo s s.size : Nat) : Int)) w) := by
  have HT := hide (fun (i : Nat) => show nlTo s (i + 1) = nlTo s i + if atB s i = 10 then 1 else 0 from rfl)
  have HZ : Hid (∀ i, nlTo s i ≤ i) := hide fun i => by
    induction i with
    | zero => exact Nat.le_refl _
    | succ i ih => unfold nlTo; split <;> omega
  have H0 : Hid (nlTo s 0 = 0) := rfl
  generalize nlTo s = T at *
  go_enter Tryz.func8, Tryz.ntmps8
  go_wp2_with fail
  go_loopw [3, 4] (fun nv iv wr => ∃ i : Nat, i ≤ s.size ∧ iv = .int .i64 (i : Int) ∧ nv = .int .i64 ((T i : Nat) : Int) ∧ w = wr) (fun _ iv _ => s.size - (intOf iv).toNat)
  case atStart => exact ⟨0, Nat.zero_le _, rfl, by rw [H0.out]; rfl, rfl⟩
  case round =>
    obtain ⟨i, hi, rfl, rfl, rfl⟩ := hrel
    by_cases hlt : i < s.size
    · have i0 : (0 : Int) ≤ (i : Int) := by omega
      have i1 : (i : Int) < (s.size : Int) := by omega
      have hat := at_is hlt
      have HTi := hide (HT.out i)
      have hz := HZ.out i
      clear HT HZ H0
      generalize atB s i = x at *
      generalize T i = t at *
      by_cases hx : x = 10
      · rw [if_pos hx] at HTi
        have hxb : ((x : Int) == 10) = true := by rw [beq_iff_eq]; omega
        go_wp2_with fail
        exact ⟨⟨i + 1, hlt, by go_num, by rw [HTi.out]; go_num, trivial⟩, by simp [intOf]; omega⟩
      · rw [if_neg hx] at HTi
        have hxb : ((x : Int) == 10) = false := by rw [beq_eq_false_iff_ne]; omega
        go_wp2_with fail
        exact ⟨⟨i + 1, hlt, by go_num, by rw [HTi.out]; go_num, trivial⟩, by simp [intOf]; omega⟩
    · obtain rfl : i = s.size := by omega
      clear HT HZ H0
      generalize T s.size = t at *
      go_wp2_with fail
      go_ret
      exact ⟨rfl, Below.refl _ _⟩
theorem str_upto {w : World} {A : Option Addr} {l : List ByteArray} (h : Row w A (strsV l)) (j : Nat) : Row w A (strsV (l.take j)) := fun i hi => by
  simp only [strsV, List.length_map, List.length_take] at hi
  obtain ⟨ad, e, hc⟩ := h i (by simp [strsV]; omega)
  exact ⟨ad, e, by rw [hc]; simp [strsV]⟩
/-- Drawn lines. -/
def DrawnLines (w : World) (e : Ending) (w' : World) : Prop := ∃ (v : Value) (lines : List ByteArray), e = .returned v ∧ lines.length ≤ 1000 ∧ (∀ i, i < lines.length → (lines[i]?.getD ⟨#[]⟩).size ≤ 1073741824) ∧ w'.ownsRow w.heap.size 9 1 v lines.length (strsV lines) ∧ Below w.heap.size w w'
set_option maxHeartbeats 4000000 in
set_option maxRecDepth 100000 in
theorem runDesk_w (T : World → Prop) (hTb : ∀ w w' : World, T w → Below w.heap.size w w' → T w') (D : DeskF) (Q : Int → Int → List Int) (hS : DeskS D) (hC : DeskC D Q)
    (HI : ∀ (lines : List ByteArray) (A : Option Addr) (n c : Nat) (w5 : World), T w5 → lines.length = n → (∀ i, i < n → (lines[i]?.getD ⟨#[]⟩).size ≤ 1073741824) → Row w5 A (strsV lines) → Calls Tryz.prog 6 #[.slice A n c] w5 (Plain (.string (deskB D lines)) w5))
    (A : Option Addr) (n c : Nat) (w : World) (hT : T w) (HDR : Calls Tryz.prog 5 #[.slice A n c] w (DrawnLines w)) : Calls Tryz.prog 3 #[.slice A n c] w (Plain (.bool true) w) := by
  by_cases hl : 1048576 < (n : Int)
  · go_enter Tryz.func3, Tryz.ntmps3
    go_wp2
    go_ret
    exact ⟨rfl, Below.refl _ _⟩
  · have HC := hide HDR
    have HI := hide HI
    have HTB := hide (fun w5 (b : Below w.heap.size w w5) => hTb w w5 hT b)
    clear hTb hT
    have HS := hide (fun lines A n c w hn hl hr => specRunDesk_c D Q hS hC lines A n c w hn hl hr)
    clear HDR
    go_enter Tryz.func3, Tryz.ntmps3
    go_wp2_with fail
    refine HC.out.mono ?_
    rintro e w1 ⟨v1, lines, rfl, hm, hsz, o1, b1⟩
    obtain ⟨A1, c1, rfl, hc1, hc2, _⟩ := own_row o1
    obtain ⟨m, hme⟩ : ∃ m, lines.length = m := ⟨_, rfl⟩
    rw [hme] at hm hsz o1 hc1
    have HI1 := hide (fun w5 (t5 : T w5) (h5 : Row w5 A1 (strsV lines)) => HI.out lines A1 m c1 w5 t5 hme hsz h5)
    have HS1 := hide (fun w5 (h5 : Row w5 A1 (strsV lines)) => HS.out lines A1 m c1 w5 hme hsz h5)
    have R1 := hide (own_reads o1)
    have B1 := hide b1
    have hbl : ∀ k, k ≤ m → (deskTo D lines k).1.size ≤ 2001 * k := fun k hk => desk_size hS lines k
    clear HC b1 o1 HS hC
    rw [hme]
    by_cases h20 : 20 < m
    · have h20' : (20 : Int) < (m : Int) := by omega
      generalize deskB D lines = o at *
      have hoo : (o.toList == o.toList) = true := by simp
      clear HI hbl
      go_wp2_with fail
      refine (HI1.out _ (HTB.out _ B1.out) R1.out).mono ?_
      rintro e w2 ⟨rfl, b2⟩
      have R2 := hide (R1.out.below b2)
      have b12 := below_then B1.out B1.out.size b2
      go_wp2_with fail
      refine (HS1.out _ R2.out).mono ?_
      rintro e w3 ⟨rfl, b3⟩
      have R3 := hide (R2.out.below b3)
      have b13 := below_then b12 b12.size b3
      go_wp2_with fail
      refine (HS1.out _ R3.out).mono ?_
      rintro e w4 ⟨rfl, b4⟩
      have b14 := below_then b13 b13.size b4
      go_wp2_with fail
      go_ret
      exact ⟨rfl, b14⟩
    · have h20' : ¬ (20 : Int) < (m : Int) := by omega
      obtain ⟨q, hq⟩ : ∃ q, m / 2 = q := ⟨_, rfl⟩
      have hqm : q ≤ m := by omega
      obtain ⟨r, hr⟩ := desk_first D lines m hqm
      have hD1 : deskB D lines = (deskTo D lines m).1 := by unfold deskB; rw [hme, if_neg h20]
      have htl : (lines.take q).length = q := by rw [List.length_take]; omega
      have hD2 : deskB D (lines.take q) = (deskTo D lines q).1 := by unfold deskB; rw [htl, if_neg (by omega), desk_take D lines q q (Nat.le_refl _)]
      have HE := hide (fun w5 (t5 : T w5) (h5 : Row w5 A1 (strsV (lines.take q))) => HI.out (lines.take q) A1 q c1 w5 t5 htl (fun i hi => by rw [List.getElem?_take_of_lt hi]; exact hsz i (by omega)) h5)
      have hnl := nl_all (deskTo D lines m).1
      rw [desk_lines] at hnl
      have s1 := hbl m (Nat.le_refl _)
      have s2 := hbl q hqm
      have hsx : (deskTo D lines m).1.size = (deskTo D lines q).1.size + r.size := by rw [hr, ByteArray.size_append]
      have hex : (deskTo D lines m).1.extract 0 (deskTo D lines q).1.size = (deskTo D lines q).1 := by rw [hr]; exact ByteArray.extract_append_eq_left rfl
      rw [hD1] at HI1 HS1
      rw [hD2] at HE
      have HNL := hide (fun w5 => newlines_c (deskTo D lines m).1 w5 (by omega))
      rw [hnl] at HNL
      have HTK := hide (fun (w5 : World) (h5 : Row w5 A1 (strsV lines)) => show Row w5 A1 (strsV (lines.take q)) by
        exact str_upto h5 q)
      clear hD1 hD2 hnl hr HI hbl hsz hme htl
      generalize (deskTo D lines m).1 = o at *
      generalize (deskTo D lines q).1 = p at *
      have hoo : (o.toList == o.toList) = true := by simp
      have hpp : (p.toList == p.toList) = true := by simp
      have hmm : ((m : Int) == (m : Int)) = true := by simp
      have t1 : Int.tdiv (m : Int) 2 = (q : Int) := by rw [← hq]; rfl
      have t2 : IntKind.i64.wrap (q : Int) = (q : Int) := IntWalk.i64_in _ (by omega)
      have q0 : (0 : Int) ≤ (q : Int) := by omega
      have q1 : (q : Int) ≤ (c1 : Int) := by omega
      have q2 : (q : Int) ≤ (m : Int) := by omega
      have p1 : (p.size : Int) ≤ (o.size : Int) := by omega
      have p0 : (0 : Int) ≤ (p.size : Int) := by omega
      clear hq s1 s2 hsx
      go_wp2_with fail
      refine (HI1.out _ (HTB.out _ B1.out) R1.out).mono ?_
      rintro e w2 ⟨rfl, b2⟩
      have R2 := hide (R1.out.below b2)
      have b12 := below_then B1.out B1.out.size b2
      go_wp2_with fail
      refine (HS1.out _ R2.out).mono ?_
      rintro e w3 ⟨rfl, b3⟩
      have R3 := hide (R2.out.below b3)
      have b13 := below_then b12 b12.size b3
      go_wp2_with fail
      refine (HE.out _ (HTB.out _ b13) (HTK.out _ R3.out)).mono ?_
      rintro e w4 ⟨rfl, b4⟩
      have b14 := below_then b13 b13.size b4
      go_wp2_with fail
      refine (HNL.out _).mono ?_
      rintro e w5 ⟨rfl, b5⟩
      have b15 := below_then b14 b14.size b5
      go_wp2_with fail
      go_ret
      exact ⟨rfl, b15⟩
end Go.Proofs.YtmfdlijkpdgimaaGreatDoor
