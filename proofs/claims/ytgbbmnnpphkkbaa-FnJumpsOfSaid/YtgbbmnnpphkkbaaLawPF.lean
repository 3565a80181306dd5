
/-
  The walk of the law FnJumpsOf. (The round's big region is written by a program, operation by operation.)
-/
import Derived.Test.YtgbbmnnpphkkbaaPPegH
import Derived.Test.YtgbbmnnpphkkbaaPPegG
import Derived.Test.YtgbbmnnpphkkbaaDrawP
import Derived.Test.YtgbbmnnpphkkbaaLawPW
import Derived.Test.YtgbbmnnpphkkbaaMoveH
import Derived.StillTailTactics
import Derived.Deep.RegionHeld3
namespace Go.Proofs.Ytgbbmnnpphkkbaa
open Go.RowKit
set_option linter.unusedVariables false

/-- The order of jumps. -/
def upJ (a b : Jump) : Prop := a.1 < b.1 ∨ (a.1 = b.1 ∧ a.2.1 ≤ b.2.1 ∧ a.2.2 < b.2.2)
theorem up_less {a b : Jump} (h : upJ a b) : lessR (rowJ a) (rowJ b) = true := by
  obtain ⟨a1, a2, a3⟩ := a
  obtain ⟨b1, b2, b3⟩ := b
  unfold upJ at h
  simp only at h
  unfold rowJ
  simp only [lessR]
  split
  · split
    · split
      · omega
      · exact decide_eq_true (by omega)
    · exact decide_eq_true (by omega)
  · exact decide_eq_true (by omega)
theorem jumps_up (w n s : Nat) : (jumpL w n s).Pairwise upJ := by
  unfold jumpL
  refine List.pairwise_flatMap.2 ⟨fun i _ => List.pairwise_map.2 ((List.Pairwise.filter _ List.pairwise_lt_range).imp (fun h => Or.inr ⟨rfl, Nat.div_le_div_right (by omega), h⟩)), List.pairwise_lt_range.imp fun {a b} h x hx y hy => Or.inl ?_⟩
  obtain ⟨_, _, rfl⟩ := List.mem_map.1 hx
  obtain ⟨_, _, rfl⟩ := List.mem_map.1 hy
  exact h
def stepOk (w h : Nat) : Bool := (List.range (w * h)).all fun i => decide ((cellsP w h false [] i straight).length ≤ 4) && (List.range (w * h)).all fun k => !farP w i k || (cellsP w h false [] i straight).contains (((i + k) / 2 : Nat) : Int)
theorem step_ok : ∀ a : Fin 5, ∀ b : Fin 5, (a.val + 1) * (b.val + 1) ≤ 12 → stepOk (a.val + 1) (b.val + 1) = true := by decide +kernel
theorem step_has {w h s : Nat} (hw : 1 ≤ w ∧ w ≤ 5) (hh : 1 ≤ h ∧ h ≤ 5) (h12 : w * h ≤ 12) {j : Jump} (hj : JumpIs w (w * h) s j) :
    (reachOfP w h [115, 116, 101, 112] j.1 []).length ≤ 4 ∧ (j.2.1 : Int) ∈ reachOfP w h [115, 116, 101, 112] j.1 [] := by
  have h0 := step_ok ⟨w - 1, by omega⟩ ⟨h - 1, by omega⟩ (by simp only [show w - 1 + 1 = w by omega, show h - 1 + 1 = h by omega]; exact h12)
  simp only [show w - 1 + 1 = w by omega, show h - 1 + 1 = h by omega] at h0
  have h1 := List.all_eq_true.1 h0 j.1 (List.mem_range.2 hj.i)
  rw [Bool.and_eq_true, decide_eq_true_eq] at h1
  have h2 := List.all_eq_true.1 h1.2 j.2.2 (List.mem_range.2 hj.k)
  rw [hj.far, Bool.not_true, Bool.false_or, ← hj.mid] at h2
  have hr : reachOfP w h [115, 116, 101, 112] j.1 [] = (cellsP w h false [] j.1 straight).mergeSort (fun x y => decide (x ≤ y)) := by
    have hk : kindL [115, 116, 101, 112] = some (straight, false) := by decide +kernel
    have hi := hj.i
    unfold reachOfP
    rw [hk]
    simp only
    rw [if_pos ⟨brdP hw hh, ⟨by omega, by rw [← Int.natCast_mul]; omega⟩, AscTo.zero _ _⟩]
    rfl
  rw [hr]
  exact ⟨by rw [List.length_mergeSort]; exact h1.1, List.mem_mergeSort.2 (List.contains_iff_mem.1 h2)⟩
/-- ReachOf of a step, at a jump's first cell. -/
def StepHas (m : Int) (w : World) (e : Ending) (w' : World) : Prop := ∃ l : List Int, l.length ≤ 4 ∧ decide (m ∈ l) = true ∧ Owns 3 1 l.length (ints l) w e w'
theorem stepHas_c {w h s : Nat} (hw : 1 ≤ w ∧ w ≤ 5) (hh : 1 ≤ h ∧ h ≤ 5) (h12 : w * h ≤ 12) {j : Jump} (hj : JumpIs w (w * h) s j) (W : World) :
    Calls Try.prog 24 #[.int .i64 (w : Int), .int .i64 (h : Int), .string ⟨#[115, 116, 101, 112]⟩, .int .i64 (j.1 : Int), .slice none 0 0] W (StepHas (j.2.1 : Int) W) := by
  obtain ⟨h1, h2⟩ := step_has hw hh h12 hj
  have e : (ByteArray.mk #[115, 116, 101, 112]).toList = [115, 116, 101, 112] := by decide +kernel
  have := implReachOf_c (w : Int) (h : Int) (j.1 : Int) ⟨#[115, 116, 101, 112]⟩ none 0 [] W (Row.empty _ _) (fun _ e => by cases e) (by simp [maxLen])
  rw [e] at this
  exact this.mono fun e w' h => ⟨_, h1, decide_eq_true h2, h⟩
theorem clsI_natF {w h x : Nat} (hw : 1 ≤ w ∧ w ≤ 5) (hh : 1 ≤ h ∧ h ≤ 5) (h12 : w * h ≤ 12) (hx : x < 2 ^ (w * h)) : clsI w h x = natI (clsL w (w * h) x) := if_pos (pegS_of hw hh h12 hx)
theorem behind_clsL {w n s : Nat} (hw : 1 ≤ w ∧ w ≤ 5) (hn : n ≤ 12) {j : Jump} (h : JumpIs w n s j) : clsL w n (behindP s j) = clsL w n s := by
  unfold clsL
  rw [cls_behind hw hn (by omega) h, cls_behind hw hn (by omega) h, cls_behind hw hn (by omega) h, cls_behind hw hn (by omega) h]
theorem bit_one {s i : Nat} (h : s.testBit i = true) : bitN s i = 1 := by rw [bit_is] at h; exact beq_iff_eq.1 h
theorem bit_none {s i : Nat} (h : s.testBit i = false) : bitN s i = 0 := by
  rw [bit_is, beq_eq_false_iff_ne] at h
  have : bitN s i ≤ 1 := by unfold bitN; omega
  omega
theorem jump_two {w n s : Nat} {j : Jump} (h : JumpIs w n s j) : 2 * j.2.1 = j.1 + j.2.2 := by
  have h1 := h.mid
  have h2 := h.far
  unfold farP at h2
  simp only [Bool.or_eq_true, Bool.and_eq_true, beq_iff_eq] at h2
  rcases h2 with ⟨_, h2 | h2⟩ | ⟨_, h2 | h2⟩ <;> omega
/-- What the round's region loads. -/
def HeldJ (gq g5 p : Nat) (i m k : Int) (pos : Prop) (hv : Value) (w : World) : Prop := w.cell? ⟨gq, 0, none⟩ = some (.int .i64 i) ∧ w.cell? ⟨gq, 1, none⟩ = some (.int .i64 m) ∧ w.cell? ⟨gq, 2, none⟩ = some (.int .i64 k) ∧ (pos → w.cell? ⟨g5, p, none⟩ = some hv)
theorem HeldJ.below {gq g5 p : Nat} {i m k : Int} {pos : Prop} {hv : Value} {w w' : World} (h : HeldJ gq g5 p i m k pos hv w) (b : Below w.heap.size w w') : HeldJ gq g5 p i m k pos hv w' := by
  obtain ⟨h0, h1, h2, h3⟩ := h
  exact ⟨(b.cell (World.block_lt_of_cell? _ _ h0)).trans h0, (b.cell (World.block_lt_of_cell? _ _ h1)).trans h1, (b.cell (World.block_lt_of_cell? _ _ h2)).trans h2, fun hp => (b.cell (World.block_lt_of_cell? _ _ (h3 hp))).trans (h3 hp)⟩
set_option maxHeartbeats 8000000 in
set_option maxRecDepth 100000 in
theorem jumpsOf_w (A : Option Addr) (n c : Nat) (w : World) (h : Code w A n c) : Calls Try.prog 6 #[.slice A n c] w (Plain (.bool true) w) := by
  by_cases hl : 1048576 < (n : Int)
  · go_enter Try.func6, Try.ntmps6
    go_wp2
    go_ret
    exact ⟨rfl, Below.refl _ _⟩
  · have HC := hide (drawJumpsOf_c A n c w h)
    clear h
    have HI := hide (fun bc br x w5 => implJumpsOf_c bc br x w5)
    have HS := hide (fun bc br x w5 => specJumpsOf_c bc br x w5)
    have HK := hide (fun bc br x w5 => implClassOf_c bc br x w5)
    go_enter Try.func6, Try.ntmps6
    go_wp2_with fail
    refine HC.out.mono ?_
    rintro e w1 ⟨bc, br, x, rfl, -, -, hx5, b1⟩
    have HI1 := hide (fun w5 => HI.out bc br x w5)
    have HS1 := hide (fun w5 => HS.out bc br x w5)
    by_cases hE : jumpV bc br x = []
    · rw [hE] at HI1 HS1
      have HEQ := hide (fun A C ca cc w5 => equalRows_q A C [] [] [] 0 0 ca cc w5 (Row.empty _ _) (Row.empty _ _) (Reads.nil _ _) (Reads.nil _ _) (by simp) (fun x hx => by simp at hx))
      clear hE HI HS HK hx5
      go_wp2_with fail
      refine (HI1.out _).mono ?_
      rintro e w2 ⟨v2, vs2, rfl, own2, rs2, _, b2⟩
      obtain rfl : vs2 = [] := List.eq_nil_of_length_eq_zero rs2.1
      obtain ⟨A2, c2, rfl, _⟩ := own_row own2
      have b12 := below_then b1 b1.size b2
      clear own2 rs2 b2
      go_wp2_with fail
      refine (HS1.out _).mono ?_
      rintro e w3 ⟨v3, vs3, rfl, own3, rs3, b3⟩
      obtain rfl : vs3 = [] := List.eq_nil_of_length_eq_zero rs3.1
      obtain ⟨A3, c3, rfl, _⟩ := own_row own3
      have b13 := below_then b12 b12.size b3
      clear own3 rs3 b3
      go_wp2_with fail
      refine (HEQ.out A2 A3 c2 c3 w3).mono ?_
      rintro e w4 ⟨rfl, m4, rfl⟩
      have b14 := below_drewN b13 m4
      generalize w3.drewN m4 = w4 at *
      go_wp2_with fail
      refine (HS1.out _).mono ?_
      rintro e w5 ⟨v5, vs5, rfl, own5, rs5, b5⟩
      obtain rfl : vs5 = [] := List.eq_nil_of_length_eq_zero rs5.1
      obtain ⟨A5, c5, rfl, _⟩ := own_row own5
      have b15 := below_then b14 b14.size b5
      clear own5 rs5 b5
      go_wp2_with fail
      refine (HEQ.out A2 A5 c2 c5 w5).mono ?_
      rintro e w6 ⟨rfl, m6, rfl⟩
      have b16 := below_drewN b15 m6
      generalize w5.drewN m6 = w6 at *
      go_wp2_with fail
      go_ret
      exact ⟨rfl, b16⟩
    · have hP : PegS bc br x := Classical.byContradiction fun hP => hE (by unfold jumpV; rw [if_neg hP])
      obtain ⟨W, H, x, rfl, rfl, rfl, hw, hh, h12, hx⟩ := pegS_nat hP
      have hx4 := peg_lt h12 hx
      have hJI : ∀ q, q < (jumpL W (W * H) x).length → JumpIs W (W * H) x ((jumpL W (W * H) x)[q]?.getD (0, 0, 0)) := fun q hq => by
        rw [List.getElem?_eq_getElem hq]
        exact jump_is hw.1 (List.getElem_mem hq)
      have HJI := hide hJI
      have HB1 := hide (fun q (hq : q < (jumpL W (W * H) x).length) w5 => show Calls Try.prog 22 #[.int .i64 (x : Int), .int .i64 ((((jumpL W (W * H) x)[q]?.getD (0, 0, 0)).1 : Nat) : Int)] w5 fun e w' => e = .returned (.int .i64 1) ∧ w5 = w' by
        have hJ := HJI.out q hq
        have := lawBitP_c x ((jumpL W (W * H) x)[q]?.getD (0, 0, 0)).1 (by omega) (by have := hJ.i; omega) w5
        rw [bit_one hJ.bi] at this
        exact this)
      have HB2 := hide (fun q (hq : q < (jumpL W (W * H) x).length) w5 => show Calls Try.prog 22 #[.int .i64 (x : Int), .int .i64 ((((jumpL W (W * H) x)[q]?.getD (0, 0, 0)).2.1 : Nat) : Int)] w5 fun e w' => e = .returned (.int .i64 1) ∧ w5 = w' by
        have hJ := HJI.out q hq
        have := lawBitP_c x ((jumpL W (W * H) x)[q]?.getD (0, 0, 0)).2.1 (by omega) (by have := hJ.m; omega) w5
        rw [bit_one hJ.bm] at this
        exact this)
      have HB3 := hide (fun q (hq : q < (jumpL W (W * H) x).length) w5 => show Calls Try.prog 22 #[.int .i64 (x : Int), .int .i64 ((((jumpL W (W * H) x)[q]?.getD (0, 0, 0)).2.2 : Nat) : Int)] w5 fun e w' => e = .returned (.int .i64 0) ∧ w5 = w' by
        have hJ := HJI.out q hq
        have := lawBitP_c x ((jumpL W (W * H) x)[q]?.getD (0, 0, 0)).2.2 (by omega) (by have := hJ.k; omega) w5
        rw [bit_none hJ.bk] at this
        exact this)
      have HPW := hide (fun q (hq : q ≤ 12) w5 => lawPowerP_c q hq w5)
      have HRE := hide (fun q (hq : q < (jumpL W (W * H) x).length) w5 => stepHas_c hw hh h12 (HJI.out q hq) w5)
      have HK0 := hide (fun w5 => show Calls Try.prog 13 #[.int .i64 (W : Int), .int .i64 (H : Int), .int .i64 (x : Int)] w5 (Owns 3 1 4 (ints (natI (clsL W (W * H) x))) w5) by
        have := HK.out (W : Int) (H : Int) (x : Int) w5
        rwa [clsI_natF hw hh h12 hx] at this)
      have HCK := hide (fun q (hq : q < (jumpL W (W * H) x).length) w5 => show Calls Try.prog 13 #[.int .i64 (W : Int), .int .i64 (H : Int), .int .i64 ((behindP x ((jumpL W (W * H) x)[q]?.getD (0, 0, 0)) : Nat) : Int)] w5 (Owns 3 1 4 (ints (natI (clsL W (W * H) x))) w5) by
        have hJ := HJI.out q hq
        have := HK.out (W : Int) (H : Int) ((behindP x ((jumpL W (W * H) x)[q]?.getD (0, 0, 0)) : Nat) : Int) w5
        rwa [clsI_natF hw hh h12 (behind_lt hJ hx), behind_clsL hw h12 hJ] at this)
      have HLQ := hide (fun q (hq : q < (jumpL W (W * H) x).length) (h0 : 0 < q) => show lessR (rowJ ((jumpL W (W * H) x)[q - 1]?.getD (0, 0, 0))) (rowJ ((jumpL W (W * H) x)[q]?.getD (0, 0, 0))) = true by
        have h1 : q - 1 < (jumpL W (W * H) x).length := by omega
        have := List.pairwise_iff_getElem.1 (jumps_up W (W * H) x) (q - 1) q h1 hq (by omega)
        rw [List.getElem?_eq_getElem hq, List.getElem?_eq_getElem h1]
        exact up_less this)
      have HTW := hide (fun q (hq : q < (jumpL W (W * H) x).length) => jump_two (HJI.out q hq))
      have HSM := hide (fun q (hq : q < (jumpL W (W * H) x).length) => jump_sum (HJI.out q hq))
      have HAT := hide (fun q (hq : q < (jumpL W (W * H) x).length) => show (jumpI (jumpL W (W * H) x))[q]? = some (rowJ ((jumpL W (W * H) x)[q]?.getD (0, 0, 0))) by
        unfold jumpI
        rw [List.getElem?_map, List.getElem?_eq_getElem hq]
        rfl)
      obtain ⟨hLl, hLx⟩ := jumpV_bd (W : Int) (H : Int) (x : Int)
      have hJv := jumpV_nat hw hh h12 hx
      rw [hJv] at HI1 HS1 hLl hLx hE
      have hJl : (jumpI (jumpL W (W * H) x)).length = (jumpL W (W * H) x).length := jumpI_len _
      have HEQ := hide (fun A C vs us B B' ca cc w5 h1 h2 h3 h4 => show Calls Try.prog 21 #[.slice A (jumpL W (W * H) x).length ca, .slice C (jumpL W (W * H) x).length cc] w5 fun e w' => e = .returned (.bool true) ∧ ∃ m, w' = w5.drewN m by
        have := equalRows_q A C vs us (jumpI (jumpL W (W * H) x)) B B' ca cc w5 h1 h2 h3 h4 (by omega) (fun y hy => by rw [hLx y hy]; omega)
        rwa [hJl] at this)
      have hJ0 : 0 < (jumpL W (W * H) x).length := by
        rcases Nat.eq_zero_or_pos (jumpL W (W * H) x).length with h | h
        · exact absurd (by rw [List.eq_nil_of_length_eq_zero h]; rfl) hE
        · exact h
      have hcl : (natI (clsL W (W * H) x)).length = 4 := rfl
      have HCL := hide hcl
      clear hP hh hx HI HS HK hJv hw hLx hE hJI hcl
      generalize clsL W (W * H) x = C at *
      generalize jumpL W (W * H) x = J at *
      generalize hL : jumpI J = L at *
      have HJL := hide hJl
      have hjb : J.length ≤ 144 := by omega
      clear hL hJl hLl
      generalize hmm : W * H = m at *
      have n12 : m ≤ 12 := h12
      clear hmm h12
      have hz0 : ((J.length : Int) == 0) = false := by rw [beq_eq_false_iff_ne]; omega
      go_wp2_with fail
      refine (HI1.out _).mono ?_
      rintro e w2 ⟨v2, vs2, rfl, own2, rs2, _, b2⟩
      have hl2 : vs2.length = J.length := rs2.1.trans HJL.out
      rw [hl2] at own2
      obtain ⟨g2, c2, rfl, _, _⟩ := own_addrP own2 hJ0
      have b12 := below_then b1 b1.size b2
      go_wp2_with fail
      refine (HS1.out _).mono ?_
      rintro e w3 ⟨v3, vs3, rfl, own3, rd3, b3⟩
      have hl3 : vs3.length = J.length := rd3.1.trans HJL.out
      rw [hl3] at own3
      obtain ⟨A3, c3, rfl, _⟩ := own_row own3
      have b13 := below_then b12 b12.size b3
      have own2 := own_below own2 b3
      have rs2 := rs2.below b3
      have HE4 := hide (HEQ.out _ A3 vs2 vs3 w1.heap.size w2.heap.size c2 c3 w3 (own_reads own2) (own_reads own3) rs2.reads rd3)
      clear b2 own3 rd3 b3 b12 hl2 hl3
      go_wp2_with fail
      refine HE4.out.mono ?_
      rintro e w4 ⟨rfl, m4, rfl⟩
      have b44 := below_drewN (Below.refl w3.heap.size w3) m4
      have b14 := below_drewN b13 m4
      generalize w3.drewN m4 = w4 at *
      have own2 := own_below own2 b44
      have rs2 := rs2.below b44
      clear b44 HE4 b13
      go_wp2_with fail
      refine (HK0.out _).mono ?_
      rintro e w7 ⟨v7, rfl, o7, b7⟩
      obtain ⟨g7, c7, rfl, _, _⟩ := own_addrP o7 (by omega)
      have own2 := own_below own2 b7
      have rs2 := rs2.below b7
      have b17 := below_then b14 b14.size b7
      have R7 := hide (own_reads o7)
      clear o7 b7 b14 hz0
      go_wp2_with fail
      go_loopw [8] (fun i wr => ∃ q : Nat, q ≤ J.length ∧ i = .int .i64 (q : Int) ∧ Below w7.heap.size w7 wr) (fun i _ => J.length - (intOf i).toNat)
      case atStart => exact ⟨0, Nat.zero_le _, rfl, Below.refl _ _⟩
      case round =>
        obtain ⟨q, hq, rfl, hb⟩ := hrel
        obtain ⟨wo, rfl⟩ : ∃ wo : World, wo = wr := ⟨_, rfl⟩
        by_cases hlt : q < J.length
        · obtain ⟨Aq, cq, eq, oq⟩ := rs2.get (HAT.out q hlt)
          rw [show (rowJ (J[q]?.getD (0, 0, 0))).length = 3 from rfl] at eq oq
          obtain ⟨gq, cq', eg, _, _⟩ := own_addrP oq (by omega)
          injection eg with eg _ ec
          subst eg
          subst ec
          have oqo := own_reads (own_below oq hb)
          obtain ⟨ad5, e5', hcl⟩ := (own_reads (own_below own2 hb)).at_ (k := q) (by have := List.getElem?_eq_some_iff.1 eq; exact this.1)
          injection e5' with e5'
          subst e5'
          rw [eq, Option.getD_some, add0P] at hcl
          obtain ⟨hv, hvc, HLR, HPRE⟩ : ∃ hv : Value, (0 < q → wo.cell? ⟨g2, q - 1, none⟩ = some hv) ∧ (∃ gp cp : Nat, 0 < q → hv = .slice (some ⟨gp, 0, none⟩) 3 cp ∧ Row w7 (some ⟨gp, 0, none⟩) (ints (rowJ (J[q - 1]?.getD (0, 0, 0))))) ∧ True := by
            by_cases h0 : 0 < q
            · have hq1 : q - 1 < J.length := by omega
              obtain ⟨Ap, cp, ep, op⟩ := rs2.get (HAT.out (q - 1) hq1)
              rw [show (rowJ (J[q - 1]?.getD (0, 0, 0))).length = 3 from rfl] at ep op
              obtain ⟨gp, cp', eg, _, _⟩ := own_addrP op (by omega)
              injection eg with eg _ ec
              subst eg
              obtain ⟨ad6, e6', hcp⟩ := (own_reads (own_below own2 hb)).at_ (k := q - 1) (by have := List.getElem?_eq_some_iff.1 ep; exact this.1)
              injection e6' with e6'
              subst e6'
              rw [ep, Option.getD_some, add0P] at hcp
              exact ⟨_, fun _ => hcp, ⟨gp, cp, fun _ => ⟨rfl, own_reads op⟩⟩, trivial⟩
            · exact ⟨undef, fun h => absurd h h0, ⟨0, 0, fun h => absurd h h0⟩, trivial⟩
          obtain ⟨gp, cp, HPR⟩ := HLR
          obtain ⟨_, ⟨rfl⟩, d0⟩ := oqo 0 (by simp [rowJ])
          obtain ⟨_, ⟨rfl⟩, d1⟩ := oqo 1 (by simp [rowJ])
          obtain ⟨_, ⟨rfl⟩, d2⟩ := oqo 2 (by simp [rowJ])
          rw [add0P] at d0 d1 d2
          have RQ := hide (own_reads oq)
          have hLq := hide (fun h0 => HLQ.out q hlt h0)
          have hJ := HJI.out q hlt
          have hsum := HSM.out q hlt
          have htw := HTW.out q hlt
          have HB1 := hide (HB1.out q hlt)
          have HB2 := hide (HB2.out q hlt)
          have HB3 := hide (HB3.out q hlt)
          have HRE1 := hide (HRE.out q hlt)
          have HCK1 := hide (HCK.out q hlt)
          have hbp : behindP x (J[q]?.getD (0, 0, 0)) = x - 2 ^ (J[q]?.getD (0, 0, 0)).1 - 2 ^ (J[q]?.getD (0, 0, 0)).2.1 + 2 ^ (J[q]?.getD (0, 0, 0)).2.2 := rfl
          have hi := hJ.i
          have hm := hJ.m
          have hk := hJ.k
          have HPR := hide HPR
          clear eq oq oqo hJ HRE HCK
          generalize J[q]?.getD (0, 0, 0) = jj at *
          obtain ⟨i, mm, k⟩ := jj
          simp only [rowJ, ints, List.map_cons, List.map_nil, List.getElem_cons_zero, List.getElem_cons_succ] at d0 d1 d2 hsum hi hm hk hbp htw
          have HPi := hide (fun w5 => HPW.out i (by omega) w5)
          have HPm := hide (fun w5 => HPW.out mm (by omega) w5)
          have HPk := hide (fun w5 => HPW.out k (by omega) w5)
          have pk := pow12 (n := k) (by omega)
          generalize behindP x (i, mm, k) = y at *
          generalize (2 ^ i : Nat) = P at *
          generalize (2 ^ mm : Nat) = Q at *
          generalize (2 ^ k : Nat) = R at *
          obtain ⟨s1, hs1⟩ : ∃ s1, x - P = s1 := ⟨_, rfl⟩
          obtain ⟨s2, hs2⟩ : ∃ s2, s1 - Q = s2 := ⟨_, rfl⟩
          rw [hs1, hs2] at hbp
          have f1 : IntKind.i64.wrap ((x : Int) - (P : Int)) = (s1 : Int) := (IntWalk.i64_in _ (by omega)).trans (by omega)
          have f2 : IntKind.i64.wrap ((s1 : Int) - (Q : Int)) = (s2 : Int) := (IntWalk.i64_in _ (by omega)).trans (by omega)
          have f3 : IntKind.i64.wrap ((s2 : Int) + (R : Int)) = (y : Int) := (IntWalk.i64_in _ (by omega)).trans (by omega)
          have f4 : IntKind.i64.wrap (2 * (mm : Int)) = ((2 * mm : Nat) : Int) := (IntWalk.i64_in _ (by omega)).trans (by omega)
          have f5 : IntKind.i64.wrap ((i : Int) + (k : Int)) = ((2 * mm : Nat) : Int) := (IntWalk.i64_in _ (by omega)).trans (by omega)
          generalize 2 * mm = t at *
          have f6 : ((t : Int) != (t : Int)) = false := by simp
          obtain ⟨p, hp⟩ : ∃ p, q - 1 = p := ⟨_, rfl⟩
          rw [hp] at hvc
          have q0 : (0 : Int) ≤ (q : Int) := by omega
          have q1 : (q : Int) < (J.length : Int) := by omega
          have HQ := hide hlt
          have HX := hide hx4
          have HP2 := hide hp
          obtain ⟨bq, hbq, hbq'⟩ : ∃ b, decide ((0 : Int) < (q : Int)) = b ∧ decide (0 < q) = b := ⟨decide (0 < q), by simp, rfl⟩
          have HHo : HeldJ gq g2 p i mm k (0 < q) hv wo := ⟨d0, d1, d2, hvc⟩
          have HHd := HHo.below (Below.refl _ wo).drew
          have hbd := hb.drew
          clear hs1 hs2 hbp hsum hi hm hk pk hlt hx4 hp hvc htw own2 rs2
          go_wp2_with fail
          refine wp_region_still_lit (by kernel_rfl) (by kernel_rfl) ?_
          repeat still_step
          still_call ((HPi.out _).mono (fun _ _ h => ⟨h.1, h.2.symm⟩))
          repeat still_step
          still_call ((HPm.out _).mono (fun _ _ h => ⟨h.1, h.2.symm⟩))
          repeat still_step
          still_call ((HPk.out _).mono (fun _ _ h => ⟨h.1, h.2.symm⟩))
          repeat still_step
          refine wpStill_nil ?_
          change Exit.then _ _ _ _ wo.drew
          clear HC HI1 HS1 HEQ HSM HTW HAT HJI HPW HK0 HPi HPm HPk d0 d1 d2 f1 f2 f3 HHo hcl HPRE
          generalize wo.drew = wd at *
          go_wp2_with fail
          refine wp_region_noPanic ?_
          refine wp_region_held_drew (S := HeldJ gq g2 p i mm k (0 < q) hv) (by kernel_rfl) (HHd.below (Below.refl _ _).drew) (fun hHeld => ?_)
          have hbd := hbd.drew
          clear HHd
          generalize wd.drew = we at *
          refine wpAnyH_take (i := 0) (oi := { dst := some 72, op := Op.move (Operand.tmp 5), type := 3, pos := "laws.go:781", after := #[], guard := none }) (v := ?_) rfl (by kernel_rfl) (by kernel_rfl) (by kernel_rfl) (fun _ _ _ h => h) (Or.inl ⟨by rfl, ?_⟩) (by assumption) ?_
          rotate_left
          · (intro w' hSw; obtain ⟨s0, s1, s2, s3⟩ := hSw; go_simp; all_goals with_reducible rfl)
          try simp only [Act.put, List.setIfInBounds_toArray, List.set_cons_zero, List.set_cons_succ]
          refine wpAnyH_take (i := 1) (oi := { dst := some 73, op := Op.move (Operand.tmp 9), type := 27, pos := "laws.go:781", after := #[], guard := none }) (v := ?_) rfl (by kernel_rfl) (by kernel_rfl) (by kernel_rfl) (fun _ _ _ h => h) (Or.inl ⟨by rfl, ?_⟩) (by assumption) ?_
          rotate_left
          · (intro w' hSw; obtain ⟨s0, s1, s2, s3⟩ := hSw; go_simp; all_goals with_reducible rfl)
          try simp only [Act.put, List.setIfInBounds_toArray, List.set_cons_zero, List.set_cons_succ]
          refine wpAnyH_take (i := 2) (oi := { dst := some 74, op := Op.indexAddr 27 (Operand.tmp 73) (Operand.const (Value.int IntKind.i64 0)), type := 0, pos := "laws.go:781", after := #[{ on := 1, ground := Ground.data }], guard := none }) (v := ?_) rfl (by kernel_rfl) (by kernel_rfl) (by kernel_rfl) (fun _ _ _ h => h) (Or.inl ⟨by rfl, ?_⟩) (by assumption) ?_
          rotate_left
          · (intro w' hSw; obtain ⟨s0, s1, s2, s3⟩ := hSw; go_simp; all_goals with_reducible rfl)
          try simp only [Act.put, List.setIfInBounds_toArray, List.set_cons_zero, List.set_cons_succ]
          refine wpAnyH_take (i := 3) (oi := { dst := some 75, op := Op.load 3 (Operand.tmp 74), type := 3, pos := "laws.go:781", after := #[{ on := 2, ground := Ground.data }], guard := none }) (v := ?_) rfl (by kernel_rfl) (by kernel_rfl) (by kernel_rfl) (fun _ _ _ h => h) (Or.inl ⟨by rfl, ?_⟩) (by assumption) ?_
          rotate_left
          · (intro w' hSw; obtain ⟨s0, s1, s2, s3⟩ := hSw; go_simp; all_goals with_reducible rfl)
          try simp only [Act.put, List.setIfInBounds_toArray, List.set_cons_zero, List.set_cons_succ]
          refine wpAnyH_ready (rs := [4]) (by kernel_rfl) (by simp) ?_
          refine AllReadyH.cons (o := { dst := some 76, op := Op.call { callee := Callee.value (Operand.func 22), args := #[Operand.tmp 72, Operand.tmp 75], argTypes := #[3, 3] }, type := 3, pos := "laws.go:781", after := #[{ on := 0, ground := Ground.data }, { on := 3, ground := Ground.data }], guard := none }) rfl (fun K hK => ?_) AllReadyH.nil
          go_simp
          go_at_call 22
          refine (HB1.out _).mono ?_
          rintro e w8 ⟨rfl, rfl⟩
          try go_wp2_with fail
          refine hK.out _ _ ?_ (fun hHeld => ?_)
          · assumption
          clear hK K
          try simp only [Act.put, List.setIfInBounds_toArray, List.set_cons_zero, List.set_cons_succ]
          refine wpAnyH_take (i := 5) (oi := { dst := some 77, op := Op.binOp BinOp.neq 3 (Operand.tmp 76) (Operand.const (Value.int IntKind.i64 1)) 3, type := 4, pos := "laws.go:781", after := #[{ on := 4, ground := Ground.data }], guard := none }) (v := ?_) rfl (by kernel_rfl) (by kernel_rfl) (by kernel_rfl) (fun _ _ _ h => h) (Or.inl ⟨by rfl, ?_⟩) (by assumption) ?_
          rotate_left
          · (intro w' hSw; obtain ⟨s0, s1, s2, s3⟩ := hSw; go_simp; all_goals with_reducible rfl)
          try simp only [Act.put, List.setIfInBounds_toArray, List.set_cons_zero, List.set_cons_succ]
          refine wpAnyH_take (i := 6) (oi := { dst := some 78, op := Op.move (Operand.tmp 77), type := 4, pos := "laws.go:781", after := #[{ on := 5, ground := Ground.data }, { on := 4, ground := Ground.chain }], guard := none }) (v := ?_) rfl (by kernel_rfl) (by kernel_rfl) (by kernel_rfl) (fun _ _ _ h => h) (Or.inl ⟨by rfl, ?_⟩) (by assumption) ?_
          rotate_left
          · (intro w' hSw; obtain ⟨s0, s1, s2, s3⟩ := hSw; go_simp; all_goals with_reducible rfl)
          try simp only [Act.put, List.setIfInBounds_toArray, List.set_cons_zero, List.set_cons_succ]
          refine wpAnyH_take (i := 7) (oi := { dst := some 79, op := Op.move (Operand.tmp 5), type := 3, pos := "laws.go:781", after := #[{ on := 6, ground := Ground.guard }], guard := some (6, false) }) (v := ?_) rfl (by kernel_rfl) (by kernel_rfl) (by kernel_rfl) (fun _ _ _ h => h) (Or.inl ⟨by rfl, ?_⟩) (by assumption) ?_
          rotate_left
          · (intro w' hSw; obtain ⟨s0, s1, s2, s3⟩ := hSw; go_simp; all_goals with_reducible rfl)
          try simp only [Act.put, List.setIfInBounds_toArray, List.set_cons_zero, List.set_cons_succ]
          refine wpAnyH_take (i := 8) (oi := { dst := some 80, op := Op.move (Operand.tmp 9), type := 27, pos := "laws.go:781", after := #[{ on := 6, ground := Ground.guard }], guard := some (6, false) }) (v := ?_) rfl (by kernel_rfl) (by kernel_rfl) (by kernel_rfl) (fun _ _ _ h => h) (Or.inl ⟨by rfl, ?_⟩) (by assumption) ?_
          rotate_left
          · (intro w' hSw; obtain ⟨s0, s1, s2, s3⟩ := hSw; go_simp; all_goals with_reducible rfl)
          try simp only [Act.put, List.setIfInBounds_toArray, List.set_cons_zero, List.set_cons_succ]
          refine wpAnyH_take (i := 9) (oi := { dst := some 81, op := Op.indexAddr 27 (Operand.tmp 80) (Operand.const (Value.int IntKind.i64 1)), type := 0, pos := "laws.go:781", after := #[{ on := 8, ground := Ground.data }, { on := 6, ground := Ground.guard }], guard := some (6, false) }) (v := ?_) rfl (by kernel_rfl) (by kernel_rfl) (by kernel_rfl) (fun _ _ _ h => h) (Or.inl ⟨by rfl, ?_⟩) (by assumption) ?_
          rotate_left
          · (intro w' hSw; obtain ⟨s0, s1, s2, s3⟩ := hSw; go_simp; all_goals with_reducible rfl)
          try simp only [Act.put, List.setIfInBounds_toArray, List.set_cons_zero, List.set_cons_succ]
          refine wpAnyH_take (i := 10) (oi := { dst := some 82, op := Op.load 3 (Operand.tmp 81), type := 3, pos := "laws.go:781", after := #[{ on := 9, ground := Ground.data }, { on := 6, ground := Ground.guard }], guard := some (6, false) }) (v := ?_) rfl (by kernel_rfl) (by kernel_rfl) (by kernel_rfl) (fun _ _ _ h => h) (Or.inl ⟨by rfl, ?_⟩) (by assumption) ?_
          rotate_left
          · (intro w' hSw; obtain ⟨s0, s1, s2, s3⟩ := hSw; go_simp; all_goals with_reducible rfl)
          try simp only [Act.put, List.setIfInBounds_toArray, List.set_cons_zero, List.set_cons_succ]
          refine wpAnyH_ready (rs := [11]) (by kernel_rfl) (by simp) ?_
          refine AllReadyH.cons (o := { dst := some 83, op := Op.call { callee := Callee.value (Operand.func 22), args := #[Operand.tmp 79, Operand.tmp 82], argTypes := #[3, 3] }, type := 3, pos := "laws.go:781", after := #[{ on := 7, ground := Ground.data }, { on := 10, ground := Ground.data }, { on := 6, ground := Ground.chain }, { on := 6, ground := Ground.guard }], guard := some (6, false) }) rfl (fun K hK => ?_) AllReadyH.nil
          go_simp
          go_at_call 22
          refine (HB2.out _).mono ?_
          rintro e w8 ⟨rfl, rfl⟩
          try go_wp2_with fail
          refine hK.out _ _ ?_ (fun hHeld => ?_)
          · assumption
          clear hK K
          try simp only [Act.put, List.setIfInBounds_toArray, List.set_cons_zero, List.set_cons_succ]
          refine wpAnyH_take (i := 12) (oi := { dst := some 84, op := Op.binOp BinOp.neq 3 (Operand.tmp 83) (Operand.const (Value.int IntKind.i64 1)) 3, type := 4, pos := "laws.go:781", after := #[{ on := 11, ground := Ground.data }, { on := 6, ground := Ground.guard }], guard := some (6, false) }) (v := ?_) rfl (by kernel_rfl) (by kernel_rfl) (by kernel_rfl) (fun _ _ _ h => h) (Or.inl ⟨by rfl, ?_⟩) (by assumption) ?_
          rotate_left
          · (intro w' hSw; obtain ⟨s0, s1, s2, s3⟩ := hSw; go_simp; all_goals with_reducible rfl)
          try simp only [Act.put, List.setIfInBounds_toArray, List.set_cons_zero, List.set_cons_succ]
          refine wpAnyH_take (i := 13) (oi := { dst := some 85, op := Op.pick (Operand.tmp 78) (Operand.const (Value.bool true)) (Operand.tmp 84), type := 4, pos := "laws.go:781", after := #[{ on := 6, ground := Ground.data }, { on := 12, ground := Ground.data }], guard := none }) (v := ?_) rfl (by kernel_rfl) (by kernel_rfl) (by kernel_rfl) (fun _ _ _ h => h) (Or.inl ⟨by rfl, ?_⟩) (by assumption) ?_
          rotate_left
          · (intro w' hSw; obtain ⟨s0, s1, s2, s3⟩ := hSw; go_simp; all_goals with_reducible rfl)
          try simp only [Act.put, List.setIfInBounds_toArray, List.set_cons_zero, List.set_cons_succ]
          refine wpAnyH_take (i := 14) (oi := { dst := some 86, op := Op.move (Operand.tmp 85), type := 4, pos := "laws.go:781", after := #[{ on := 13, ground := Ground.data }, { on := 11, ground := Ground.chain }], guard := none }) (v := ?_) rfl (by kernel_rfl) (by kernel_rfl) (by kernel_rfl) (fun _ _ _ h => h) (Or.inl ⟨by rfl, ?_⟩) (by assumption) ?_
          rotate_left
          · (intro w' hSw; obtain ⟨s0, s1, s2, s3⟩ := hSw; go_simp; all_goals with_reducible rfl)
          try simp only [Act.put, List.setIfInBounds_toArray, List.set_cons_zero, List.set_cons_succ]
          refine wpAnyH_take (i := 15) (oi := { dst := some 87, op := Op.move (Operand.tmp 5), type := 3, pos := "laws.go:781", after := #[{ on := 14, ground := Ground.guard }], guard := some (14, false) }) (v := ?_) rfl (by kernel_rfl) (by kernel_rfl) (by kernel_rfl) (fun _ _ _ h => h) (Or.inl ⟨by rfl, ?_⟩) (by assumption) ?_
          rotate_left
          · (intro w' hSw; obtain ⟨s0, s1, s2, s3⟩ := hSw; go_simp; all_goals with_reducible rfl)
          try simp only [Act.put, List.setIfInBounds_toArray, List.set_cons_zero, List.set_cons_succ]
          refine wpAnyH_take (i := 16) (oi := { dst := some 88, op := Op.move (Operand.tmp 9), type := 27, pos := "laws.go:781", after := #[{ on := 14, ground := Ground.guard }], guard := some (14, false) }) (v := ?_) rfl (by kernel_rfl) (by kernel_rfl) (by kernel_rfl) (fun _ _ _ h => h) (Or.inl ⟨by rfl, ?_⟩) (by assumption) ?_
          rotate_left
          · (intro w' hSw; obtain ⟨s0, s1, s2, s3⟩ := hSw; go_simp; all_goals with_reducible rfl)
          try simp only [Act.put, List.setIfInBounds_toArray, List.set_cons_zero, List.set_cons_succ]
          refine wpAnyH_take (i := 17) (oi := { dst := some 89, op := Op.indexAddr 27 (Operand.tmp 88) (Operand.const (Value.int IntKind.i64 2)), type := 0, pos := "laws.go:781", after := #[{ on := 16, ground := Ground.data }, { on := 14, ground := Ground.guard }], guard := some (14, false) }) (v := ?_) rfl (by kernel_rfl) (by kernel_rfl) (by kernel_rfl) (fun _ _ _ h => h) (Or.inl ⟨by rfl, ?_⟩) (by assumption) ?_
          rotate_left
          · (intro w' hSw; obtain ⟨s0, s1, s2, s3⟩ := hSw; go_simp; all_goals with_reducible rfl)
          try simp only [Act.put, List.setIfInBounds_toArray, List.set_cons_zero, List.set_cons_succ]
          refine wpAnyH_take (i := 18) (oi := { dst := some 90, op := Op.load 3 (Operand.tmp 89), type := 3, pos := "laws.go:781", after := #[{ on := 17, ground := Ground.data }, { on := 14, ground := Ground.guard }], guard := some (14, false) }) (v := ?_) rfl (by kernel_rfl) (by kernel_rfl) (by kernel_rfl) (fun _ _ _ h => h) (Or.inl ⟨by rfl, ?_⟩) (by assumption) ?_
          rotate_left
          · (intro w' hSw; obtain ⟨s0, s1, s2, s3⟩ := hSw; go_simp; all_goals with_reducible rfl)
          try simp only [Act.put, List.setIfInBounds_toArray, List.set_cons_zero, List.set_cons_succ]
          refine wpAnyH_ready (rs := [19]) (by kernel_rfl) (by simp) ?_
          refine AllReadyH.cons (o := { dst := some 91, op := Op.call { callee := Callee.value (Operand.func 22), args := #[Operand.tmp 87, Operand.tmp 90], argTypes := #[3, 3] }, type := 3, pos := "laws.go:781", after := #[{ on := 15, ground := Ground.data }, { on := 18, ground := Ground.data }, { on := 14, ground := Ground.chain }, { on := 14, ground := Ground.guard }], guard := some (14, false) }) rfl (fun K hK => ?_) AllReadyH.nil
          go_simp
          go_at_call 22
          refine (HB3.out _).mono ?_
          rintro e w8 ⟨rfl, rfl⟩
          try go_wp2_with fail
          refine hK.out _ _ ?_ (fun hHeld => ?_)
          · assumption
          clear hK K
          try simp only [Act.put, List.setIfInBounds_toArray, List.set_cons_zero, List.set_cons_succ]
          refine wpAnyH_take (i := 20) (oi := { dst := some 92, op := Op.binOp BinOp.neq 3 (Operand.tmp 91) (Operand.const (Value.int IntKind.i64 0)) 3, type := 4, pos := "laws.go:781", after := #[{ on := 19, ground := Ground.data }, { on := 14, ground := Ground.guard }], guard := some (14, false) }) (v := ?_) rfl (by kernel_rfl) (by kernel_rfl) (by kernel_rfl) (fun _ _ _ h => h) (Or.inl ⟨by rfl, ?_⟩) (by assumption) ?_
          rotate_left
          · (intro w' hSw; obtain ⟨s0, s1, s2, s3⟩ := hSw; go_simp; all_goals with_reducible rfl)
          try simp only [Act.put, List.setIfInBounds_toArray, List.set_cons_zero, List.set_cons_succ]
          refine wpAnyH_take (i := 21) (oi := { dst := some 93, op := Op.pick (Operand.tmp 86) (Operand.const (Value.bool true)) (Operand.tmp 92), type := 4, pos := "laws.go:781", after := #[{ on := 14, ground := Ground.data }, { on := 20, ground := Ground.data }], guard := none }) (v := ?_) rfl (by kernel_rfl) (by kernel_rfl) (by kernel_rfl) (fun _ _ _ h => h) (Or.inl ⟨by rfl, ?_⟩) (by assumption) ?_
          rotate_left
          · (intro w' hSw; obtain ⟨s0, s1, s2, s3⟩ := hSw; go_simp; all_goals with_reducible rfl)
          try simp only [Act.put, List.setIfInBounds_toArray, List.set_cons_zero, List.set_cons_succ]
          refine wpAnyH_take (i := 22) (oi := { dst := some 94, op := Op.move (Operand.tmp 93), type := 4, pos := "laws.go:781", after := #[{ on := 21, ground := Ground.data }, { on := 19, ground := Ground.chain }], guard := none }) (v := ?_) rfl (by kernel_rfl) (by kernel_rfl) (by kernel_rfl) (fun _ _ _ h => h) (Or.inl ⟨by rfl, ?_⟩) (by assumption) ?_
          rotate_left
          · (intro w' hSw; obtain ⟨s0, s1, s2, s3⟩ := hSw; go_simp; all_goals with_reducible rfl)
          try simp only [Act.put, List.setIfInBounds_toArray, List.set_cons_zero, List.set_cons_succ]
          refine wpAnyH_take (i := 23) (oi := { dst := some 95, op := Op.move (Operand.tmp 9), type := 27, pos := "laws.go:781", after := #[{ on := 22, ground := Ground.guard }], guard := some (22, false) }) (v := ?_) rfl (by kernel_rfl) (by kernel_rfl) (by kernel_rfl) (fun _ _ _ h => h) (Or.inl ⟨by rfl, ?_⟩) (by assumption) ?_
          rotate_left
          · (intro w' hSw; obtain ⟨s0, s1, s2, s3⟩ := hSw; go_simp; all_goals with_reducible rfl)
          try simp only [Act.put, List.setIfInBounds_toArray, List.set_cons_zero, List.set_cons_succ]
          refine wpAnyH_take (i := 24) (oi := { dst := some 96, op := Op.indexAddr 27 (Operand.tmp 95) (Operand.const (Value.int IntKind.i64 1)), type := 0, pos := "laws.go:781", after := #[{ on := 23, ground := Ground.data }, { on := 22, ground := Ground.guard }], guard := some (22, false) }) (v := ?_) rfl (by kernel_rfl) (by kernel_rfl) (by kernel_rfl) (fun _ _ _ h => h) (Or.inl ⟨by rfl, ?_⟩) (by assumption) ?_
          rotate_left
          · (intro w' hSw; obtain ⟨s0, s1, s2, s3⟩ := hSw; go_simp; all_goals with_reducible rfl)
          try simp only [Act.put, List.setIfInBounds_toArray, List.set_cons_zero, List.set_cons_succ]
          refine wpAnyH_take (i := 25) (oi := { dst := some 97, op := Op.load 3 (Operand.tmp 96), type := 3, pos := "laws.go:781", after := #[{ on := 24, ground := Ground.data }, { on := 22, ground := Ground.guard }], guard := some (22, false) }) (v := ?_) rfl (by kernel_rfl) (by kernel_rfl) (by kernel_rfl) (fun _ _ _ h => h) (Or.inl ⟨by rfl, ?_⟩) (by assumption) ?_
          rotate_left
          · (intro w' hSw; obtain ⟨s0, s1, s2, s3⟩ := hSw; go_simp; all_goals with_reducible rfl)
          try simp only [Act.put, List.setIfInBounds_toArray, List.set_cons_zero, List.set_cons_succ]
          refine wpAnyH_take (i := 26) (oi := { dst := some 98, op := Op.binOp BinOp.mul 3 (Operand.const (Value.int IntKind.i64 2)) (Operand.tmp 97) 3, type := 3, pos := "laws.go:781", after := #[{ on := 25, ground := Ground.data }, { on := 22, ground := Ground.guard }], guard := some (22, false) }) (v := ?_) rfl (by kernel_rfl) (by kernel_rfl) (by kernel_rfl) (fun _ _ _ h => h) (Or.inl ⟨by rfl, ?_⟩) (by assumption) ?_
          rotate_left
          · (intro w' hSw; obtain ⟨s0, s1, s2, s3⟩ := hSw; go_simp; all_goals with_reducible rfl)
          try simp only [Act.put, List.setIfInBounds_toArray, List.set_cons_zero, List.set_cons_succ]
          refine wpAnyH_take (i := 27) (oi := { dst := some 99, op := Op.move (Operand.tmp 9), type := 27, pos := "laws.go:781", after := #[{ on := 22, ground := Ground.guard }], guard := some (22, false) }) (v := ?_) rfl (by kernel_rfl) (by kernel_rfl) (by kernel_rfl) (fun _ _ _ h => h) (Or.inl ⟨by rfl, ?_⟩) (by assumption) ?_
          rotate_left
          · (intro w' hSw; obtain ⟨s0, s1, s2, s3⟩ := hSw; go_simp; all_goals with_reducible rfl)
          try simp only [Act.put, List.setIfInBounds_toArray, List.set_cons_zero, List.set_cons_succ]
          refine wpAnyH_take (i := 28) (oi := { dst := some 100, op := Op.indexAddr 27 (Operand.tmp 99) (Operand.const (Value.int IntKind.i64 0)), type := 0, pos := "laws.go:781", after := #[{ on := 27, ground := Ground.data }, { on := 22, ground := Ground.guard }], guard := some (22, false) }) (v := ?_) rfl (by kernel_rfl) (by kernel_rfl) (by kernel_rfl) (fun _ _ _ h => h) (Or.inl ⟨by rfl, ?_⟩) (by assumption) ?_
          rotate_left
          · (intro w' hSw; obtain ⟨s0, s1, s2, s3⟩ := hSw; go_simp; all_goals with_reducible rfl)
          try simp only [Act.put, List.setIfInBounds_toArray, List.set_cons_zero, List.set_cons_succ]
          refine wpAnyH_take (i := 29) (oi := { dst := some 101, op := Op.load 3 (Operand.tmp 100), type := 3, pos := "laws.go:781", after := #[{ on := 28, ground := Ground.data }, { on := 22, ground := Ground.guard }], guard := some (22, false) }) (v := ?_) rfl (by kernel_rfl) (by kernel_rfl) (by kernel_rfl) (fun _ _ _ h => h) (Or.inl ⟨by rfl, ?_⟩) (by assumption) ?_
          rotate_left
          · (intro w' hSw; obtain ⟨s0, s1, s2, s3⟩ := hSw; go_simp; all_goals with_reducible rfl)
          try simp only [Act.put, List.setIfInBounds_toArray, List.set_cons_zero, List.set_cons_succ]
          refine wpAnyH_take (i := 30) (oi := { dst := some 102, op := Op.move (Operand.tmp 9), type := 27, pos := "laws.go:781", after := #[{ on := 22, ground := Ground.guard }], guard := some (22, false) }) (v := ?_) rfl (by kernel_rfl) (by kernel_rfl) (by kernel_rfl) (fun _ _ _ h => h) (Or.inl ⟨by rfl, ?_⟩) (by assumption) ?_
          rotate_left
          · (intro w' hSw; obtain ⟨s0, s1, s2, s3⟩ := hSw; go_simp; all_goals with_reducible rfl)
          try simp only [Act.put, List.setIfInBounds_toArray, List.set_cons_zero, List.set_cons_succ]
          refine wpAnyH_take (i := 31) (oi := { dst := some 103, op := Op.indexAddr 27 (Operand.tmp 102) (Operand.const (Value.int IntKind.i64 2)), type := 0, pos := "laws.go:781", after := #[{ on := 30, ground := Ground.data }, { on := 22, ground := Ground.guard }], guard := some (22, false) }) (v := ?_) rfl (by kernel_rfl) (by kernel_rfl) (by kernel_rfl) (fun _ _ _ h => h) (Or.inl ⟨by rfl, ?_⟩) (by assumption) ?_
          rotate_left
          · (intro w' hSw; obtain ⟨s0, s1, s2, s3⟩ := hSw; go_simp; all_goals with_reducible rfl)
          try simp only [Act.put, List.setIfInBounds_toArray, List.set_cons_zero, List.set_cons_succ]
          refine wpAnyH_take (i := 32) (oi := { dst := some 104, op := Op.load 3 (Operand.tmp 103), type := 3, pos := "laws.go:781", after := #[{ on := 31, ground := Ground.data }, { on := 22, ground := Ground.guard }], guard := some (22, false) }) (v := ?_) rfl (by kernel_rfl) (by kernel_rfl) (by kernel_rfl) (fun _ _ _ h => h) (Or.inl ⟨by rfl, ?_⟩) (by assumption) ?_
          rotate_left
          · (intro w' hSw; obtain ⟨s0, s1, s2, s3⟩ := hSw; go_simp; all_goals with_reducible rfl)
          try simp only [Act.put, List.setIfInBounds_toArray, List.set_cons_zero, List.set_cons_succ]
          refine wpAnyH_take (i := 33) (oi := { dst := some 105, op := Op.binOp BinOp.add 3 (Operand.tmp 101) (Operand.tmp 104) 3, type := 3, pos := "laws.go:781", after := #[{ on := 29, ground := Ground.data }, { on := 32, ground := Ground.data }, { on := 22, ground := Ground.guard }], guard := some (22, false) }) (v := ?_) rfl (by kernel_rfl) (by kernel_rfl) (by kernel_rfl) (fun _ _ _ h => h) (Or.inl ⟨by rfl, ?_⟩) (by assumption) ?_
          rotate_left
          · (intro w' hSw; obtain ⟨s0, s1, s2, s3⟩ := hSw; go_simp; all_goals with_reducible rfl)
          try simp only [Act.put, List.setIfInBounds_toArray, List.set_cons_zero, List.set_cons_succ]
          refine wpAnyH_take (i := 34) (oi := { dst := some 106, op := Op.binOp BinOp.neq 3 (Operand.tmp 98) (Operand.tmp 105) 3, type := 4, pos := "laws.go:781", after := #[{ on := 26, ground := Ground.data }, { on := 33, ground := Ground.data }, { on := 22, ground := Ground.guard }], guard := some (22, false) }) (v := ?_) rfl (by kernel_rfl) (by kernel_rfl) (by kernel_rfl) (fun _ _ _ h => h) (Or.inl ⟨by rfl, ?_⟩) (by assumption) ?_
          rotate_left
          · (intro w' hSw; obtain ⟨s0, s1, s2, s3⟩ := hSw; go_simp; all_goals with_reducible rfl)
          try simp only [Act.put, List.setIfInBounds_toArray, List.set_cons_zero, List.set_cons_succ]
          refine wpAnyH_take (i := 35) (oi := { dst := some 107, op := Op.pick (Operand.tmp 94) (Operand.const (Value.bool true)) (Operand.tmp 106), type := 4, pos := "laws.go:781", after := #[{ on := 22, ground := Ground.data }, { on := 34, ground := Ground.data }], guard := none }) (v := ?_) rfl (by kernel_rfl) (by kernel_rfl) (by kernel_rfl) (fun _ _ _ h => h) (Or.inl ⟨by rfl, ?_⟩) (by assumption) ?_
          rotate_left
          · (intro w' hSw; obtain ⟨s0, s1, s2, s3⟩ := hSw; go_simp; all_goals with_reducible rfl)
          try simp only [Act.put, List.setIfInBounds_toArray, List.set_cons_zero, List.set_cons_succ]
          refine wpAnyH_take (i := 36) (oi := { dst := some 108, op := Op.move (Operand.tmp 107), type := 4, pos := "laws.go:781", after := #[{ on := 35, ground := Ground.data }, { on := 22, ground := Ground.chain }], guard := none }) (v := ?_) rfl (by kernel_rfl) (by kernel_rfl) (by kernel_rfl) (fun _ _ _ h => h) (Or.inl ⟨by rfl, ?_⟩) (by assumption) ?_
          rotate_left
          · (intro w' hSw; obtain ⟨s0, s1, s2, s3⟩ := hSw; go_simp; all_goals with_reducible rfl)
          try simp only [Act.put, List.setIfInBounds_toArray, List.set_cons_zero, List.set_cons_succ]
          refine wpAnyH_take (i := 37) (oi := { dst := some 109, op := Op.move (Operand.tmp 3), type := 3, pos := "laws.go:781", after := #[{ on := 36, ground := Ground.guard }], guard := some (36, false) }) (v := ?_) rfl (by kernel_rfl) (by kernel_rfl) (by kernel_rfl) (fun _ _ _ h => h) (Or.inl ⟨by rfl, ?_⟩) (by assumption) ?_
          rotate_left
          · (intro w' hSw; obtain ⟨s0, s1, s2, s3⟩ := hSw; go_simp; all_goals with_reducible rfl)
          try simp only [Act.put, List.setIfInBounds_toArray, List.set_cons_zero, List.set_cons_succ]
          refine wpAnyH_take (i := 38) (oi := { dst := some 110, op := Op.move (Operand.tmp 4), type := 3, pos := "laws.go:781", after := #[{ on := 36, ground := Ground.guard }], guard := some (36, false) }) (v := ?_) rfl (by kernel_rfl) (by kernel_rfl) (by kernel_rfl) (fun _ _ _ h => h) (Or.inl ⟨by rfl, ?_⟩) (by assumption) ?_
          rotate_left
          · (intro w' hSw; obtain ⟨s0, s1, s2, s3⟩ := hSw; go_simp; all_goals with_reducible rfl)
          try simp only [Act.put, List.setIfInBounds_toArray, List.set_cons_zero, List.set_cons_succ]
          refine wpAnyH_take (i := 39) (oi := { dst := some 111, op := Op.move (Operand.tmp 9), type := 27, pos := "laws.go:781", after := #[{ on := 36, ground := Ground.guard }], guard := some (36, false) }) (v := ?_) rfl (by kernel_rfl) (by kernel_rfl) (by kernel_rfl) (fun _ _ _ h => h) (Or.inl ⟨by rfl, ?_⟩) (by assumption) ?_
          rotate_left
          · (intro w' hSw; obtain ⟨s0, s1, s2, s3⟩ := hSw; go_simp; all_goals with_reducible rfl)
          try simp only [Act.put, List.setIfInBounds_toArray, List.set_cons_zero, List.set_cons_succ]
          refine wpAnyH_take (i := 40) (oi := { dst := some 112, op := Op.indexAddr 27 (Operand.tmp 111) (Operand.const (Value.int IntKind.i64 0)), type := 0, pos := "laws.go:781", after := #[{ on := 39, ground := Ground.data }, { on := 36, ground := Ground.guard }], guard := some (36, false) }) (v := ?_) rfl (by kernel_rfl) (by kernel_rfl) (by kernel_rfl) (fun _ _ _ h => h) (Or.inl ⟨by rfl, ?_⟩) (by assumption) ?_
          rotate_left
          · (intro w' hSw; obtain ⟨s0, s1, s2, s3⟩ := hSw; go_simp; all_goals with_reducible rfl)
          try simp only [Act.put, List.setIfInBounds_toArray, List.set_cons_zero, List.set_cons_succ]
          refine wpAnyH_take (i := 41) (oi := { dst := some 113, op := Op.load 3 (Operand.tmp 112), type := 3, pos := "laws.go:781", after := #[{ on := 40, ground := Ground.data }, { on := 36, ground := Ground.guard }], guard := some (36, false) }) (v := ?_) rfl (by kernel_rfl) (by kernel_rfl) (by kernel_rfl) (fun _ _ _ h => h) (Or.inl ⟨by rfl, ?_⟩) (by assumption) ?_
          rotate_left
          · (intro w' hSw; obtain ⟨s0, s1, s2, s3⟩ := hSw; go_simp; all_goals with_reducible rfl)
          try simp only [Act.put, List.setIfInBounds_toArray, List.set_cons_zero, List.set_cons_succ]
          refine wpAnyH_take (i := 43) (oi := { dst := some 115, op := Op.move (Operand.tmp 9), type := 27, pos := "laws.go:781", after := #[{ on := 36, ground := Ground.guard }], guard := some (36, false) }) (v := ?_) rfl (by kernel_rfl) (by kernel_rfl) (by kernel_rfl) (fun _ _ _ h => h) (Or.inl ⟨by rfl, ?_⟩) (by assumption) ?_
          rotate_left
          · (intro w' hSw; obtain ⟨s0, s1, s2, s3⟩ := hSw; go_simp; all_goals with_reducible rfl)
          try simp only [Act.put, List.setIfInBounds_toArray, List.set_cons_zero, List.set_cons_succ]
          refine wpAnyH_take (i := 44) (oi := { dst := some 116, op := Op.indexAddr 27 (Operand.tmp 115) (Operand.const (Value.int IntKind.i64 1)), type := 0, pos := "laws.go:781", after := #[{ on := 43, ground := Ground.data }, { on := 36, ground := Ground.guard }], guard := some (36, false) }) (v := ?_) rfl (by kernel_rfl) (by kernel_rfl) (by kernel_rfl) (fun _ _ _ h => h) (Or.inl ⟨by rfl, ?_⟩) (by assumption) ?_
          rotate_left
          · (intro w' hSw; obtain ⟨s0, s1, s2, s3⟩ := hSw; go_simp; all_goals with_reducible rfl)
          try simp only [Act.put, List.setIfInBounds_toArray, List.set_cons_zero, List.set_cons_succ]
          refine wpAnyH_take (i := 45) (oi := { dst := some 117, op := Op.load 3 (Operand.tmp 116), type := 3, pos := "laws.go:781", after := #[{ on := 44, ground := Ground.data }, { on := 36, ground := Ground.guard }], guard := some (36, false) }) (v := ?_) rfl (by kernel_rfl) (by kernel_rfl) (by kernel_rfl) (fun _ _ _ h => h) (Or.inl ⟨by rfl, ?_⟩) (by assumption) ?_
          rotate_left
          · (intro w' hSw; obtain ⟨s0, s1, s2, s3⟩ := hSw; go_simp; all_goals with_reducible rfl)
          try simp only [Act.put, List.setIfInBounds_toArray, List.set_cons_zero, List.set_cons_succ]
          refine wpAnyH_ready (rs := [42]) (by kernel_rfl) (by simp) ?_
          refine AllReadyH.cons (o := { dst := some 114, op := Op.call { callee := Callee.value (Operand.func 24), args := #[Operand.tmp 109, Operand.tmp 110, Operand.const (Value.string { data := #[115, 116, 101, 112] }), Operand.tmp 113, Operand.const (Value.slice none 0 0)], argTypes := #[3, 3, 9, 3, 27] }, type := 27, pos := "laws.go:781", after := #[{ on := 37, ground := Ground.data }, { on := 38, ground := Ground.data }, { on := 41, ground := Ground.data }, { on := 36, ground := Ground.chain }, { on := 36, ground := Ground.guard }], guard := some (36, false) }) rfl (fun K hK => ?_) AllReadyH.nil
          go_simp
          go_at_call 24
          refine (HRE1.out _).mono ?_
          rintro e w8 ⟨l8, hl8, hd8, v8, rfl, o8, b8⟩
          obtain ⟨A8, c8, rfl, _⟩ := own_row o8
          have hb8 := below_then hbd hbd.size b8
          have r8 := own_reads o8
          have HH8 := hHeld.below b8
          clear o8 b8
          try go_wp2_with fail
          refine hK.out _ _ ?_ (fun hHeld => ?_)
          · exact HH8
          clear hK K
          try simp only [Act.put, List.setIfInBounds_toArray, List.set_cons_zero, List.set_cons_succ]
          refine wpAnyH_ready (rs := [46]) (by kernel_rfl) (by simp) ?_
          refine AllReadyH.cons (o := { dst := some 118, op := Op.call { callee := Callee.value (Operand.func 23), args := #[Operand.tmp 114, Operand.tmp 117], argTypes := #[27, 3] }, type := 4, pos := "laws.go:781", after := #[{ on := 42, ground := Ground.data }, { on := 45, ground := Ground.data }, { on := 42, ground := Ground.chain }, { on := 36, ground := Ground.guard }], guard := some (36, false) }) rfl (fun K hK => ?_) AllReadyH.nil
          go_simp
          go_at_call 23
          refine (isInP_c _ _ l8 _ _ _ rfl r8 (by omega)).mono ?_
          rw [hd8]
          rintro e w9 ⟨rfl, b9⟩
          have hb9 := below_then hb8 hb8.size b9
          have HH9 := hHeld.below b9
          clear b9 r8 hb8
          try go_wp2_with fail
          refine hK.out _ _ ?_ (fun hHeld => ?_)
          · exact HH9
          clear hK K
          try simp only [Act.put, List.setIfInBounds_toArray, List.set_cons_zero, List.set_cons_succ]
          refine wpAnyH_take (i := 47) (oi := { dst := some 119, op := Op.unOp UnOp.not 4 (Operand.tmp 118), type := 4, pos := "laws.go:781", after := #[{ on := 46, ground := Ground.data }, { on := 36, ground := Ground.guard }], guard := some (36, false) }) (v := ?_) rfl (by kernel_rfl) (by kernel_rfl) (by kernel_rfl) (fun _ _ _ h => h) (Or.inl ⟨by rfl, ?_⟩) (by assumption) ?_
          rotate_left
          · (intro w' hSw; obtain ⟨s0, s1, s2, s3⟩ := hSw; go_simp; all_goals with_reducible rfl)
          try simp only [Act.put, List.setIfInBounds_toArray, List.set_cons_zero, List.set_cons_succ]
          refine wpAnyH_take (i := 48) (oi := { dst := some 120, op := Op.pick (Operand.tmp 108) (Operand.const (Value.bool true)) (Operand.tmp 119), type := 4, pos := "laws.go:781", after := #[{ on := 36, ground := Ground.data }, { on := 47, ground := Ground.data }], guard := none }) (v := ?_) rfl (by kernel_rfl) (by kernel_rfl) (by kernel_rfl) (fun _ _ _ h => h) (Or.inl ⟨by rfl, ?_⟩) (by assumption) ?_
          rotate_left
          · (intro w' hSw; obtain ⟨s0, s1, s2, s3⟩ := hSw; go_simp; all_goals with_reducible rfl)
          try simp only [Act.put, List.setIfInBounds_toArray, List.set_cons_zero, List.set_cons_succ]
          refine wpAnyH_take (i := 49) (oi := { dst := some 121, op := Op.move (Operand.tmp 120), type := 4, pos := "laws.go:781", after := #[{ on := 48, ground := Ground.data }, { on := 46, ground := Ground.chain }], guard := none }) (v := ?_) rfl (by kernel_rfl) (by kernel_rfl) (by kernel_rfl) (fun _ _ _ h => h) (Or.inl ⟨by rfl, ?_⟩) (by assumption) ?_
          rotate_left
          · (intro w' hSw; obtain ⟨s0, s1, s2, s3⟩ := hSw; go_simp; all_goals with_reducible rfl)
          try simp only [Act.put, List.setIfInBounds_toArray, List.set_cons_zero, List.set_cons_succ]
          refine wpAnyH_take (i := 50) (oi := { dst := some 122, op := Op.move (Operand.tmp 3), type := 3, pos := "laws.go:781", after := #[{ on := 49, ground := Ground.guard }], guard := some (49, false) }) (v := ?_) rfl (by kernel_rfl) (by kernel_rfl) (by kernel_rfl) (fun _ _ _ h => h) (Or.inl ⟨by rfl, ?_⟩) (by assumption) ?_
          rotate_left
          · (intro w' hSw; obtain ⟨s0, s1, s2, s3⟩ := hSw; go_simp; all_goals with_reducible rfl)
          try simp only [Act.put, List.setIfInBounds_toArray, List.set_cons_zero, List.set_cons_succ]
          refine wpAnyH_take (i := 51) (oi := { dst := some 123, op := Op.move (Operand.tmp 4), type := 3, pos := "laws.go:781", after := #[{ on := 49, ground := Ground.guard }], guard := some (49, false) }) (v := ?_) rfl (by kernel_rfl) (by kernel_rfl) (by kernel_rfl) (fun _ _ _ h => h) (Or.inl ⟨by rfl, ?_⟩) (by assumption) ?_
          rotate_left
          · (intro w' hSw; obtain ⟨s0, s1, s2, s3⟩ := hSw; go_simp; all_goals with_reducible rfl)
          try simp only [Act.put, List.setIfInBounds_toArray, List.set_cons_zero, List.set_cons_succ]
          refine wpAnyH_take (i := 52) (oi := { dst := some 124, op := Op.move (Operand.tmp 10), type := 3, pos := "laws.go:781", after := #[{ on := 49, ground := Ground.guard }], guard := some (49, false) }) (v := ?_) rfl (by kernel_rfl) (by kernel_rfl) (by kernel_rfl) (fun _ _ _ h => h) (Or.inl ⟨by rfl, ?_⟩) (by assumption) ?_
          rotate_left
          · (intro w' hSw; obtain ⟨s0, s1, s2, s3⟩ := hSw; go_simp; all_goals with_reducible rfl)
          try simp only [Act.put, List.setIfInBounds_toArray, List.set_cons_zero, List.set_cons_succ]
          refine wpAnyH_take (i := 54) (oi := { dst := some 126, op := Op.move (Operand.tmp 7), type := 27, pos := "laws.go:781", after := #[{ on := 49, ground := Ground.guard }], guard := some (49, false) }) (v := ?_) rfl (by kernel_rfl) (by kernel_rfl) (by kernel_rfl) (fun _ _ _ h => h) (Or.inl ⟨by rfl, ?_⟩) (by assumption) ?_
          rotate_left
          · (intro w' hSw; obtain ⟨s0, s1, s2, s3⟩ := hSw; go_simp; all_goals with_reducible rfl)
          try simp only [Act.put, List.setIfInBounds_toArray, List.set_cons_zero, List.set_cons_succ]
          refine wpAnyH_ready (rs := [53]) (by kernel_rfl) (by simp) ?_
          refine AllReadyH.cons (o := { dst := some 125, op := Op.call { callee := Callee.value (Operand.func 13), args := #[Operand.tmp 122, Operand.tmp 123, Operand.tmp 124], argTypes := #[3, 3, 3] }, type := 27, pos := "laws.go:781", after := #[{ on := 50, ground := Ground.data }, { on := 51, ground := Ground.data }, { on := 52, ground := Ground.data }, { on := 49, ground := Ground.chain }, { on := 49, ground := Ground.guard }], guard := some (49, false) }) rfl (fun K hK => ?_) AllReadyH.nil
          go_simp
          go_at_call 13
          refine (HCK1.out _).mono ?_
          rintro e w10 ⟨v10, rfl, o10, b10⟩
          obtain ⟨g10, c10, rfl, _, _⟩ := own_addrP o10 (by omega)
          have hb10 := below_then hb9 hb9.size b10
          have r10 := own_reads o10
          have HH10 := hHeld.below b10
          clear o10 b10 hb9
          try go_wp2_with fail
          refine hK.out _ _ ?_ (fun hHeld => ?_)
          · exact HH10
          clear hK K
          try simp only [Act.put, List.setIfInBounds_toArray, List.set_cons_zero, List.set_cons_succ]
          refine wpAnyH_ready (rs := [55]) (by kernel_rfl) (by simp) ?_
          refine AllReadyH.cons (o := { dst := some 127, op := Op.call { callee := Callee.value (Operand.func 18), args := #[Operand.tmp 125, Operand.tmp 126], argTypes := #[27, 27] }, type := 4, pos := "laws.go:781", after := #[{ on := 53, ground := Ground.data }, { on := 54, ground := Ground.data }, { on := 53, ground := Ground.chain }, { on := 49, ground := Ground.guard }], guard := some (49, false) }) rfl (fun K hK => ?_) AllReadyH.nil
          go_simp
          go_at_call 18
          refine (equalIntsP_t _ _ _ _ _ _ _ _ _ HCL.out HCL.out r10 (R7.out.below hb10) (by rw [HCL.out]; omega) rfl).mono ?_
          rintro e w11 ⟨rfl, b11⟩
          have hb11 := below_then hb10 hb10.size b11
          have HH11 := hHeld.below b11
          clear b11 r10 hb10
          try go_wp2_with fail
          refine hK.out _ _ ?_ (fun hHeld => ?_)
          · exact HH11
          clear hK K
          try simp only [Act.put, List.setIfInBounds_toArray, List.set_cons_zero, List.set_cons_succ]
          refine wpAnyH_take (i := 56) (oi := { dst := some 128, op := Op.unOp UnOp.not 4 (Operand.tmp 127), type := 4, pos := "laws.go:781", after := #[{ on := 55, ground := Ground.data }, { on := 49, ground := Ground.guard }], guard := some (49, false) }) (v := ?_) rfl (by kernel_rfl) (by kernel_rfl) (by kernel_rfl) (fun _ _ _ h => h) (Or.inl ⟨by rfl, ?_⟩) (by assumption) ?_
          rotate_left
          · (intro w' hSw; obtain ⟨s0, s1, s2, s3⟩ := hSw; go_simp; all_goals with_reducible rfl)
          try simp only [Act.put, List.setIfInBounds_toArray, List.set_cons_zero, List.set_cons_succ]
          refine wpAnyH_take (i := 57) (oi := { dst := some 129, op := Op.pick (Operand.tmp 121) (Operand.const (Value.bool true)) (Operand.tmp 128), type := 4, pos := "laws.go:781", after := #[{ on := 49, ground := Ground.data }, { on := 56, ground := Ground.data }], guard := none }) (v := ?_) rfl (by kernel_rfl) (by kernel_rfl) (by kernel_rfl) (fun _ _ _ h => h) (Or.inl ⟨by rfl, ?_⟩) (by assumption) ?_
          rotate_left
          · (intro w' hSw; obtain ⟨s0, s1, s2, s3⟩ := hSw; go_simp; all_goals with_reducible rfl)
          try simp only [Act.put, List.setIfInBounds_toArray, List.set_cons_zero, List.set_cons_succ]
          refine wpAnyH_take (i := 58) (oi := { dst := some 130, op := Op.move (Operand.tmp 129), type := 4, pos := "laws.go:781", after := #[{ on := 57, ground := Ground.data }, { on := 55, ground := Ground.chain }], guard := none }) (v := ?_) rfl (by kernel_rfl) (by kernel_rfl) (by kernel_rfl) (fun _ _ _ h => h) (Or.inl ⟨by rfl, ?_⟩) (by assumption) ?_
          rotate_left
          · (intro w' hSw; obtain ⟨s0, s1, s2, s3⟩ := hSw; go_simp; all_goals with_reducible rfl)
          try simp only [Act.put, List.setIfInBounds_toArray, List.set_cons_zero, List.set_cons_succ]
          refine wpAnyH_take (i := 59) (oi := { dst := some 131, op := Op.move (Operand.tmp 8), type := 3, pos := "laws.go:781", after := #[{ on := 58, ground := Ground.guard }], guard := some (58, false) }) (v := ?_) rfl (by kernel_rfl) (by kernel_rfl) (by kernel_rfl) (fun _ _ _ h => h) (Or.inl ⟨by rfl, ?_⟩) (by assumption) ?_
          rotate_left
          · (intro w' hSw; obtain ⟨s0, s1, s2, s3⟩ := hSw; go_simp; all_goals with_reducible rfl)
          try simp only [Act.put, List.setIfInBounds_toArray, List.set_cons_zero, List.set_cons_succ]
          refine wpAnyH_take (i := 60) (oi := { dst := some 132, op := Op.binOp BinOp.gtr 3 (Operand.tmp 131) (Operand.const (Value.int IntKind.i64 0)) 3, type := 4, pos := "laws.go:781", after := #[{ on := 59, ground := Ground.data }, { on := 58, ground := Ground.guard }], guard := some (58, false) }) (v := ?_) rfl (by kernel_rfl) (by kernel_rfl) (by kernel_rfl) (fun _ _ _ h => h) (Or.inl ⟨by rfl, ?_⟩) (by assumption) ?_
          rotate_left
          · (intro w' hSw; obtain ⟨s0, s1, s2, s3⟩ := hSw; go_simp; all_goals with_reducible rfl)
          try simp only [Act.put, List.setIfInBounds_toArray, List.set_cons_zero, List.set_cons_succ]
          refine wpAnyH_take (i := 61) (oi := { dst := some 133, op := Op.move (Operand.tmp 132), type := 4, pos := "laws.go:781", after := #[{ on := 60, ground := Ground.data }, { on := 58, ground := Ground.chain }, { on := 58, ground := Ground.guard }], guard := some (58, false) }) (v := ?_) rfl (by kernel_rfl) (by kernel_rfl) (by kernel_rfl) (fun _ _ _ h => h) (Or.inl ⟨by rfl, ?_⟩) (by assumption) ?_
          rotate_left
          · (intro w' hSw; obtain ⟨s0, s1, s2, s3⟩ := hSw; go_simp; all_goals with_reducible rfl)
          try simp only [Act.put, List.setIfInBounds_toArray, List.set_cons_zero, List.set_cons_succ]
          cases bq with
          | true =>
            have hpos : 0 < q := of_decide_eq_true hbq'
            obtain ⟨rfl, hrp⟩ := HPR.out hpos
            have RP := hide hrp
            have HLR := hide (fun w5 (h1 : Row w5 (some ⟨gp, 0, none⟩) (ints (rowJ (J[q - 1]?.getD (0, 0, 0))))) (h2 : Row w5 (some ⟨gq, 0, none⟩) (ints (rowJ (i, mm, k)))) => show Calls Try.prog 25 #[.slice (some ⟨gp, 0, none⟩) 3 cp, .slice (some ⟨gq, 0, none⟩) 3 cq] w5 (Plain (.bool true) w5) by
              have := lessRow_c (some ⟨gp, 0, none⟩) (some ⟨gq, 0, none⟩) (rowJ (J[q - 1]?.getD (0, 0, 0))) (rowJ (i, mm, k)) cp cq w5 h1 h2 (by simp [rowJ]) rfl
              rw [hLq.out hpos] at this
              exact this)
            have p0 : (0 : Int) ≤ (p : Int) := by omega
            have hp := HP2.out
            have p1 : (p : Int) < (J.length : Int) := by omega
            have f7 : IntKind.i64.wrap ((q : Int) - 1) = (p : Int) := (IntWalk.i64_in _ (by omega)).trans (by omega)
            clear hp hrp
            refine wpAnyH_take (i := 62) (oi := { dst := some 134, op := Op.move (Operand.tmp 6), type := 22, pos := "laws.go:781", after := #[{ on := 61, ground := Ground.guard }], guard := some (61, true) }) (v := ?_) rfl (by kernel_rfl) (by kernel_rfl) (by kernel_rfl) (fun _ _ _ h => h) (Or.inl ⟨by rfl, ?_⟩) (by assumption) ?_
            rotate_left
            · (intro w' hSw; obtain ⟨s0, s1, s2, s3⟩ := hSw; have s3 := s3 hpos; go_simp; all_goals with_reducible rfl)
            try simp only [Act.put, List.setIfInBounds_toArray, List.set_cons_zero, List.set_cons_succ]
            refine wpAnyH_take (i := 63) (oi := { dst := some 135, op := Op.move (Operand.tmp 8), type := 3, pos := "laws.go:781", after := #[{ on := 61, ground := Ground.guard }], guard := some (61, true) }) (v := ?_) rfl (by kernel_rfl) (by kernel_rfl) (by kernel_rfl) (fun _ _ _ h => h) (Or.inl ⟨by rfl, ?_⟩) (by assumption) ?_
            rotate_left
            · (intro w' hSw; obtain ⟨s0, s1, s2, s3⟩ := hSw; have s3 := s3 hpos; go_simp; all_goals with_reducible rfl)
            try simp only [Act.put, List.setIfInBounds_toArray, List.set_cons_zero, List.set_cons_succ]
            refine wpAnyH_take (i := 64) (oi := { dst := some 136, op := Op.binOp BinOp.sub 3 (Operand.tmp 135) (Operand.const (Value.int IntKind.i64 1)) 3, type := 3, pos := "laws.go:781", after := #[{ on := 63, ground := Ground.data }, { on := 61, ground := Ground.guard }], guard := some (61, true) }) (v := ?_) rfl (by kernel_rfl) (by kernel_rfl) (by kernel_rfl) (fun _ _ _ h => h) (Or.inl ⟨by rfl, ?_⟩) (by assumption) ?_
            rotate_left
            · (intro w' hSw; obtain ⟨s0, s1, s2, s3⟩ := hSw; have s3 := s3 hpos; go_simp; all_goals with_reducible rfl)
            try simp only [Act.put, List.setIfInBounds_toArray, List.set_cons_zero, List.set_cons_succ]
            refine wpAnyH_take (i := 65) (oi := { dst := some 137, op := Op.indexAddr 22 (Operand.tmp 134) (Operand.tmp 136), type := 0, pos := "laws.go:781", after := #[{ on := 62, ground := Ground.data }, { on := 64, ground := Ground.data }, { on := 61, ground := Ground.guard }], guard := some (61, true) }) (v := ?_) rfl (by kernel_rfl) (by kernel_rfl) (by kernel_rfl) (fun _ _ _ h => h) (Or.inl ⟨by rfl, ?_⟩) (by assumption) ?_
            rotate_left
            · (intro w' hSw; obtain ⟨s0, s1, s2, s3⟩ := hSw; have s3 := s3 hpos; go_simp; all_goals with_reducible rfl)
            try simp only [Act.put, List.setIfInBounds_toArray, List.set_cons_zero, List.set_cons_succ]
            refine wpAnyH_take (i := 66) (oi := { dst := some 138, op := Op.load 27 (Operand.tmp 137), type := 27, pos := "laws.go:781", after := #[{ on := 65, ground := Ground.data }, { on := 61, ground := Ground.guard }], guard := some (61, true) }) (v := ?_) rfl (by kernel_rfl) (by kernel_rfl) (by kernel_rfl) (fun _ _ _ h => h) (Or.inl ⟨by rfl, ?_⟩) (by assumption) ?_
            rotate_left
            · (intro w' hSw; obtain ⟨s0, s1, s2, s3⟩ := hSw; have s3 := s3 hpos; go_simp; all_goals with_reducible rfl)
            try simp only [Act.put, List.setIfInBounds_toArray, List.set_cons_zero, List.set_cons_succ]
            refine wpAnyH_take (i := 67) (oi := { dst := some 139, op := Op.move (Operand.tmp 9), type := 27, pos := "laws.go:781", after := #[{ on := 61, ground := Ground.guard }], guard := some (61, true) }) (v := ?_) rfl (by kernel_rfl) (by kernel_rfl) (by kernel_rfl) (fun _ _ _ h => h) (Or.inl ⟨by rfl, ?_⟩) (by assumption) ?_
            rotate_left
            · (intro w' hSw; obtain ⟨s0, s1, s2, s3⟩ := hSw; have s3 := s3 hpos; go_simp; all_goals with_reducible rfl)
            try simp only [Act.put, List.setIfInBounds_toArray, List.set_cons_zero, List.set_cons_succ]
            refine wpAnyH_ready (rs := [68]) (by kernel_rfl) (by simp) ?_
            refine AllReadyH.cons (o := { dst := some 140, op := Op.call { callee := Callee.value (Operand.func 25), args := #[Operand.tmp 138, Operand.tmp 139], argTypes := #[27, 27] }, type := 4, pos := "laws.go:781", after := #[{ on := 66, ground := Ground.data }, { on := 67, ground := Ground.data }, { on := 61, ground := Ground.chain }, { on := 61, ground := Ground.guard }], guard := some (61, true) }) rfl (fun K hK => ?_) AllReadyH.nil
            go_simp
            go_at_call 25
            refine (HLR.out _ (RP.out.below hb11) (RQ.out.below hb11)).mono ?_
            rintro e w12 ⟨rfl, b12'⟩
            have hb12 := below_then hb11 hb11.size b12'
            have HH12 := hHeld.below b12'
            clear b12'
            try go_wp2_with fail
            refine hK.out _ _ ?_ (fun hHeld => ?_)
            · exact HH12
            clear hK K
            try simp only [Act.put, List.setIfInBounds_toArray, List.set_cons_zero, List.set_cons_succ]
            refine wpAnyH_take (i := 69) (oi := { dst := some 141, op := Op.unOp UnOp.not 4 (Operand.tmp 140), type := 4, pos := "laws.go:781", after := #[{ on := 68, ground := Ground.data }, { on := 61, ground := Ground.guard }], guard := some (61, true) }) (v := ?_) rfl (by kernel_rfl) (by kernel_rfl) (by kernel_rfl) (fun _ _ _ h => h) (Or.inl ⟨by rfl, ?_⟩) (by assumption) ?_
            rotate_left
            · (intro w' hSw; obtain ⟨s0, s1, s2, s3⟩ := hSw; have s3 := s3 hpos; go_simp; all_goals with_reducible rfl)
            try simp only [Act.put, List.setIfInBounds_toArray, List.set_cons_zero, List.set_cons_succ]
            refine wpAnyH_take (i := 70) (oi := { dst := some 142, op := Op.pick (Operand.tmp 133) (Operand.tmp 141) (Operand.const (Value.bool false)), type := 4, pos := "laws.go:781", after := #[{ on := 61, ground := Ground.data }, { on := 69, ground := Ground.data }, { on := 58, ground := Ground.guard }], guard := some (58, false) }) (v := ?_) rfl (by kernel_rfl) (by kernel_rfl) (by kernel_rfl) (fun _ _ _ h => h) (Or.inl ⟨by rfl, ?_⟩) (by assumption) ?_
            rotate_left
            · (intro w' hSw; obtain ⟨s0, s1, s2, s3⟩ := hSw; have s3 := s3 hpos; go_simp; all_goals with_reducible rfl)
            try simp only [Act.put, List.setIfInBounds_toArray, List.set_cons_zero, List.set_cons_succ]
            refine wpAnyH_take (i := 71) (oi := { dst := some 143, op := Op.pick (Operand.tmp 130) (Operand.const (Value.bool true)) (Operand.tmp 142), type := 4, pos := "laws.go:781", after := #[{ on := 58, ground := Ground.data }, { on := 70, ground := Ground.data }], guard := none }) (v := ?_) rfl (by kernel_rfl) (by kernel_rfl) (by kernel_rfl) (fun _ _ _ h => h) (Or.inl ⟨by rfl, ?_⟩) (by assumption) ?_
            rotate_left
            · (intro w' hSw; obtain ⟨s0, s1, s2, s3⟩ := hSw; have s3 := s3 hpos; go_simp; all_goals with_reducible rfl)
            try simp only [Act.put, List.setIfInBounds_toArray, List.set_cons_zero, List.set_cons_succ]
            refine wpAnyH_done (by kernel_rfl) ?_ _
            go_wp2_with fail
            apply_assumption
            go_wp2_with fail
            exact ⟨⟨q + 1, HQ.out, by go_num, hb12⟩, by simp [intOf]; omega⟩
          | false =>
            refine wpAnyH_take (i := 62) (oi := { dst := some 134, op := Op.move (Operand.tmp 6), type := 22, pos := "laws.go:781", after := #[{ on := 61, ground := Ground.guard }], guard := some (61, true) }) (v := undef) rfl (by kernel_rfl) (by kernel_rfl) (by kernel_rfl) (fun _ _ _ h => h) (Or.inr ⟨by rfl, rfl⟩) (by assumption) ?_
            try simp only [Act.put, List.setIfInBounds_toArray, List.set_cons_zero, List.set_cons_succ]
            refine wpAnyH_take (i := 63) (oi := { dst := some 135, op := Op.move (Operand.tmp 8), type := 3, pos := "laws.go:781", after := #[{ on := 61, ground := Ground.guard }], guard := some (61, true) }) (v := undef) rfl (by kernel_rfl) (by kernel_rfl) (by kernel_rfl) (fun _ _ _ h => h) (Or.inr ⟨by rfl, rfl⟩) (by assumption) ?_
            try simp only [Act.put, List.setIfInBounds_toArray, List.set_cons_zero, List.set_cons_succ]
            refine wpAnyH_take (i := 64) (oi := { dst := some 136, op := Op.binOp BinOp.sub 3 (Operand.tmp 135) (Operand.const (Value.int IntKind.i64 1)) 3, type := 3, pos := "laws.go:781", after := #[{ on := 63, ground := Ground.data }, { on := 61, ground := Ground.guard }], guard := some (61, true) }) (v := undef) rfl (by kernel_rfl) (by kernel_rfl) (by kernel_rfl) (fun _ _ _ h => h) (Or.inr ⟨by rfl, rfl⟩) (by assumption) ?_
            try simp only [Act.put, List.setIfInBounds_toArray, List.set_cons_zero, List.set_cons_succ]
            refine wpAnyH_take (i := 65) (oi := { dst := some 137, op := Op.indexAddr 22 (Operand.tmp 134) (Operand.tmp 136), type := 0, pos := "laws.go:781", after := #[{ on := 62, ground := Ground.data }, { on := 64, ground := Ground.data }, { on := 61, ground := Ground.guard }], guard := some (61, true) }) (v := undef) rfl (by kernel_rfl) (by kernel_rfl) (by kernel_rfl) (fun _ _ _ h => h) (Or.inr ⟨by rfl, rfl⟩) (by assumption) ?_
            try simp only [Act.put, List.setIfInBounds_toArray, List.set_cons_zero, List.set_cons_succ]
            refine wpAnyH_take (i := 66) (oi := { dst := some 138, op := Op.load 27 (Operand.tmp 137), type := 27, pos := "laws.go:781", after := #[{ on := 65, ground := Ground.data }, { on := 61, ground := Ground.guard }], guard := some (61, true) }) (v := undef) rfl (by kernel_rfl) (by kernel_rfl) (by kernel_rfl) (fun _ _ _ h => h) (Or.inr ⟨by rfl, rfl⟩) (by assumption) ?_
            try simp only [Act.put, List.setIfInBounds_toArray, List.set_cons_zero, List.set_cons_succ]
            refine wpAnyH_take (i := 67) (oi := { dst := some 139, op := Op.move (Operand.tmp 9), type := 27, pos := "laws.go:781", after := #[{ on := 61, ground := Ground.guard }], guard := some (61, true) }) (v := undef) rfl (by kernel_rfl) (by kernel_rfl) (by kernel_rfl) (fun _ _ _ h => h) (Or.inr ⟨by rfl, rfl⟩) (by assumption) ?_
            try simp only [Act.put, List.setIfInBounds_toArray, List.set_cons_zero, List.set_cons_succ]
            refine wpAnyH_take (i := 68) (oi := { dst := some 140, op := Op.call { callee := Callee.value (Operand.func 25), args := #[Operand.tmp 138, Operand.tmp 139], argTypes := #[27, 27] }, type := 4, pos := "laws.go:781", after := #[{ on := 66, ground := Ground.data }, { on := 67, ground := Ground.data }, { on := 61, ground := Ground.chain }, { on := 61, ground := Ground.guard }], guard := some (61, true) }) (v := undef) rfl (by kernel_rfl) (by kernel_rfl) (by kernel_rfl) (fun _ _ _ h => h) (Or.inr ⟨by rfl, rfl⟩) (by assumption) ?_
            try simp only [Act.put, List.setIfInBounds_toArray, List.set_cons_zero, List.set_cons_succ]
            refine wpAnyH_take (i := 69) (oi := { dst := some 141, op := Op.unOp UnOp.not 4 (Operand.tmp 140), type := 4, pos := "laws.go:781", after := #[{ on := 68, ground := Ground.data }, { on := 61, ground := Ground.guard }], guard := some (61, true) }) (v := undef) rfl (by kernel_rfl) (by kernel_rfl) (by kernel_rfl) (fun _ _ _ h => h) (Or.inr ⟨by rfl, rfl⟩) (by assumption) ?_
            try simp only [Act.put, List.setIfInBounds_toArray, List.set_cons_zero, List.set_cons_succ]
            refine wpAnyH_take (i := 70) (oi := { dst := some 142, op := Op.pick (Operand.tmp 133) (Operand.tmp 141) (Operand.const (Value.bool false)), type := 4, pos := "laws.go:781", after := #[{ on := 61, ground := Ground.data }, { on := 69, ground := Ground.data }, { on := 58, ground := Ground.guard }], guard := some (58, false) }) (v := ?_) rfl (by kernel_rfl) (by kernel_rfl) (by kernel_rfl) (fun _ _ _ h => h) (Or.inl ⟨by rfl, ?_⟩) (by assumption) ?_
            rotate_left
            · (intro w' hSw; obtain ⟨s0, s1, s2, s3⟩ := hSw; go_simp; all_goals with_reducible rfl)
            try simp only [Act.put, List.setIfInBounds_toArray, List.set_cons_zero, List.set_cons_succ]
            refine wpAnyH_take (i := 71) (oi := { dst := some 143, op := Op.pick (Operand.tmp 130) (Operand.const (Value.bool true)) (Operand.tmp 142), type := 4, pos := "laws.go:781", after := #[{ on := 58, ground := Ground.data }, { on := 70, ground := Ground.data }], guard := none }) (v := ?_) rfl (by kernel_rfl) (by kernel_rfl) (by kernel_rfl) (fun _ _ _ h => h) (Or.inl ⟨by rfl, ?_⟩) (by assumption) ?_
            rotate_left
            · (intro w' hSw; obtain ⟨s0, s1, s2, s3⟩ := hSw; go_simp; all_goals with_reducible rfl)
            try simp only [Act.put, List.setIfInBounds_toArray, List.set_cons_zero, List.set_cons_succ]
            refine wpAnyH_done (by kernel_rfl) ?_ _
            go_wp2_with fail
            apply_assumption
            go_wp2_with fail
            exact ⟨⟨q + 1, HQ.out, by go_num, hb11⟩, by simp [intOf]; omega⟩
        · obtain rfl : q = J.length := by omega
          go_wp2_with fail
          go_ret
          exact ⟨rfl, below_then b17 b17.size hb⟩
end Go.Proofs.Ytgbbmnnpphkkbaa
