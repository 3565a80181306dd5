
/-
  The model's PiecesOf; the walks of the laws FnExactPiecesOf and FnPiecesOf.
-/
import Derived.Test.YtljojjkaeclcfaaPieceA
namespace Go.Proofs.Ytljojjkaeclcfaa
open Go.RowKit
set_option linter.unusedVariables false

def piecesP (bc br : Int) (s : List UInt8) : Int :=
  match kindL s with
  | none => -1
  | some (ss, far) => if Brd bc br then ((partsS (fun n => movesP bc br far ss (n : Int)) (bc * br).toNat : Nat) : Int) else -1
theorem movesT_eq {bc br : Int} {far : Bool} {ss : List (Int × Int)} {N : Nat} (h1 : 1 ≤ bc) (h2 : bc ≤ 5) (h3 : 1 ≤ br) (h4 : br ≤ 5) (hN : bc * br = (N : Int)) (c : Nat) (hc : c < N) : movesP bc br far ss (c : Int) = movesT (tabP bc br far ss) N c := by
  have hin : ∀ x, ∀ y ∈ reachP bc br far [] x ss, 0 ≤ y ∧ y < (N : Int) := fun x y hy => by
    unfold reachP at hy
    rw [List.mem_mergeSort] at hy
    have := cells_in h1 h2 h3 h4 y hy
    rwa [hN] at this
  have hm := Met.start (N := N) (cell := (c : Int)) (by omega) (by omega)
  unfold movesP
  rw [hN]
  exact (bfsT_eq far ss hN hin 26 _ 0 hm).symm
structure Parts (bc br : Int) (p : List (Int × Int) × Bool) (N out : Nat) : Prop where
  area : bc * br = (N : Int)
  big : N ≤ 25
  spec : partsS (fun n => movesP bc br p.2 p.1 (n : Int)) N = out
  impl : (partsI (fun n => movesP bc br p.2 p.1 (n : Int)) N N).2 = out
  one : 1 ≤ out
  most : out ≤ N
  kind : (if p = (slanted, true) then out = (if bc = 1 ∨ br = 1 then N else 2) else p = (knights, false) ∨ out = 1)
theorem parts_of {bc br : Int} {p : List (Int × Int) × Bool} (hB : Brd bc br) (h6 : p ∈ six) : ∃ N out, Parts bc br p N out := by
  have hok := boards (fun a b => pieceOk a b p = true) (pieces_all p h6) hB
  obtain ⟨h1, h2, h3, h4⟩ := hB
  obtain ⟨m1, m2⟩ := mul_bd h1 h2 h3 h4
  obtain ⟨N, hN⟩ : ∃ N : Nat, bc * br = (N : Int) := ⟨(bc * br).toNat, by omega⟩
  obtain ⟨ss, far⟩ := p
  simp only [pieceOk, hN, Int.toNat_natCast, Bool.and_eq_true, beq_iff_eq, decide_eq_true_eq] at hok
  have tab : ∀ c, c < N → (fun n : Nat => movesP bc br far ss (n : Int)) c = (fun n : Nat => ((List.range N).map (movesT (tabP bc br far ss) N))[n]?.getD []) c := fun c hc => by
    simp only [List.getElem?_map, List.getElem?_range hc, Option.map_some, Option.getD_some]
    exact movesT_eq h1 h2 h3 h4 hN c hc
  obtain ⟨⟨⟨o1, o2⟩, o3⟩, o4⟩ := hok
  refine ⟨N, _, hN, by omega, partsS_congr N tab, ?_, o2, o3, ?_⟩
  · rw [partsI_congr N N tab]; exact o1
  · split
    · rename_i hp
      rw [if_pos hp] at o4
      simpa using o4
    · rename_i hp
      rw [if_neg hp] at o4
      simpa using o4

set_option maxHeartbeats 2000000 in
set_option maxRecDepth 100000 in
theorem specPieces_yes (bc br : Int) (s : ByteArray) (w : World) {ss : List (Int × Int)} {far : Bool} (hk : kindL s.toList = some (ss, far)) (h1 : 1 ≤ bc) (h2 : bc ≤ 5) (h3 : 1 ≤ br) (h4 : br ≤ 5) :
    Calls Try.prog 15 #[.int .i64 bc, .int .i64 br, .string s] w (Plain (.int .i64 ((partsS (fun n => movesP bc br far ss (n : Int)) (bc * br).toNat : Nat) : Int)) w) := by
  obtain ⟨m1, m2⟩ := mul_bd h1 h2 h3 h4
  obtain ⟨N, hN⟩ : ∃ N : Nat, bc * br = (N : Int) := ⟨(bc * br).toNat, by omega⟩
  have hN1 : 1 ≤ N := by omega
  have hN2 : N ≤ 25 := by omega
  have Hv := hide (show (kindL s.toList).isSome = true by simp [hk])
  obtain ⟨M, hM⟩ : ∃ M : Nat → List Int, ∀ n : Nat, M n = movesP bc br far ss (n : Int) := ⟨_, fun _ => rfl⟩
  have hlen := hide (fun (c : Nat) (hc : c < N) => show (M c).length = N by rw [hM]; exact movesP_len h1 h2 h3 h4 hN c hc)
  have hmov := hide (fun (c : Nat) (hc : c < N) (w5 : World) => show Calls Try.prog _ #[.int .i64 bc, .int .i64 br, .string s, .int .i64 (c : Int)] w5 (Owns 3 1 N (ints (M c)) w5) by
    have := away_c bc br (c : Int) s far ss w5 hk h1 h2 h3 h4 (by omega) (by omega)
    rwa [movesP_len h1 h2 h3 h4 hN c hc, ← hM] at this)
  have HB : Hid (∀ n : Nat, n = N → Value.int .i64 ((partsS (fun n => movesP bc br far ss (n : Int)) (bc * br).toNat : Nat) : Int) = .int .i64 ((partsS M n : Nat) : Int)) := fun n hn => by
    rw [hn, hN, Int.toNat_natCast, show (fun n : Nat => movesP bc br far ss (n : Int)) = M from funext fun n => (hM n).symm]
  have HNi := hide (fun (i : Nat) (hi : i < N) => show (i : Int) < bc * br by omega)
  have HNj := hide (fun (i : Nat) (hi : ¬ i < N) => show ¬ (i : Int) < bc * br by omega)
  clear hM hN hk
  go_enter Try.func15, Try.ntmps15
  go_wp2_with fail
  refine (validBoard_yes bc br _ ⟨h1, h2, h3, h4⟩).mono ?_
  rintro e w' ⟨rfl, rfl⟩
  go_wp2_with fail
  refine (validKind_t Hv.out _).mono ?_
  rintro e wa ⟨rfl, hb⟩
  go_wp2_with fail
  go_loopw [7, 8] (fun a i wr => ∃ k : Nat, k ≤ N ∧ i = .int .i64 (k : Int) ∧ a = .int .i64 ((partsS M k : Nat) : Int) ∧ Below wa.heap.size wa wr) (fun _ i _ => N - (intOf i).toNat)
  case atStart => exact ⟨0, Nat.zero_le _, rfl, rfl, Below.refl _ _⟩
  case round =>
    obtain ⟨k, hk, rfl, rfl, hbr⟩ := hrel
    obtain ⟨wo, rfl⟩ : ∃ wo : World, wo = wr := ⟨_, rfl⟩
    have zo := hbr.size
    have hle := partsS_le M k
    have Hsucc := hide (show partsS M (k + 1) = if firstP (M k) k then partsS M k + 1 else partsS M k from rfl)
    obtain ⟨p, hp⟩ : ∃ p, partsS M k = p := ⟨_, rfl⟩
    rw [hp] at hle Hsucc ⊢
    have Hp := hide hp
    clear hp
    by_cases hlt : k < N
    · have hlt2 := HNi.out k hlt
      have HL := hide (hlen.out k hlt)
      have HMv := hide (hmov.out k hlt)
      generalize M k = row at *
      have hlr : row.length = N := HL.out
      go_wp2_with fail
      refine (HMv.out _).mono ?_
      rintro e w5 ⟨v5, rfl, o5, b5⟩
      obtain ⟨A5, c5, rfl, _⟩ := own_row o5
      have hb5 := below_then hbr hbr.size b5
      have r5 := own_reads o5
      clear o5
      go_wp2_with fail
      go_loopw [10, 11] (fun a i wi => ∃ j : Nat, j ≤ k ∧ i = .int .i64 (j : Int) ∧ a = .bool (firstP row j) ∧ w5 = wi) (fun _ i _ => k - (intOf i).toNat)
      case atStart => exact ⟨0, Nat.zero_le _, rfl, rfl, rfl⟩
      case round =>
        obtain ⟨j, hj, rfl, rfl, rfl⟩ := hrel
        by_cases hjl : j < k
        · obtain ⟨ad, rfl, hcr⟩ := r5.int (k := j) (by omega)
          have Hst := hide (first_step (row := row) (n := 0) (k := j))
          obtain ⟨f, hf⟩ : ∃ f, firstP row j = f := ⟨_, rfl⟩
          obtain ⟨x, hx⟩ : ∃ x, row[j]?.getD 0 = x := ⟨_, rfl⟩
          rw [hf, hx] at Hst
          rw [hx] at hcr
          rw [hf]
          clear hf hx
          have j0 : (0 : Int) ≤ (j : Int) := by omega
          have j1 : (j : Int) < (N : Int) := by omega
          cases f with
          | false =>
            go_wp2_with fail
            exact ⟨⟨j + 1, hjl, rfl, by rw [Hst.out]; rfl, trivial⟩, by simp [intOf]; omega⟩
          | true =>
            by_cases hx : x < 0
            · have hd := hide (decide_eq_true hx)
              go_wp2_with fail
              exact ⟨⟨j + 1, hjl, rfl, by rw [Hst.out, hd.out]; rfl, trivial⟩, by simp [intOf]; omega⟩
            · have hd := hide (decide_eq_false hx)
              go_wp2_with fail
              exact ⟨⟨j + 1, hjl, rfl, by rw [Hst.out, hd.out]; rfl, trivial⟩, by simp [intOf]; omega⟩
        · obtain rfl : j = k := by omega
          obtain ⟨f, hf⟩ : ∃ f, firstP row j = f := ⟨_, rfl⟩
          rw [hf] at Hsucc ⊢
          clear hf
          cases f with
          | true =>
            go_wp2_with fail
            go_round
            case rel => exact ⟨j + 1, hlt, rfl, by rw [Hsucc.out]; rfl, hb5⟩
            case measure => simp [intOf]; omega
          | false =>
            go_wp2_with fail
            go_round
            case rel => exact ⟨j + 1, hlt, rfl, by rw [Hsucc.out]; rfl, hb5⟩
            case measure => simp [intOf]; omega
    · have hlt2 := HNj.out k hlt
      have hkN : Hid (k = N) := hide (by omega)
      go_wp2_with fail
      go_ret
      exact ⟨by rw [HB.out k hkN.out, Hp.out]; rfl, below_then hb hb.size hbr⟩
theorem specPieces_c (bc br : Int) (s : ByteArray) (w : World) : Calls Try.prog 15 #[.int .i64 bc, .int .i64 br, .string s] w (Plain (.int .i64 (piecesP bc br s.toList)) w) := by
  by_cases hB : Brd bc br
  · unfold piecesP
    cases hk : kindL s.toList with
    | none =>
      have Hv := hide (show (kindL s.toList).isSome = false by simp [hk])
      have HB := hide hB
      clear hk hB
      go_enter Try.func15, Try.ntmps15
      go_wp2_with fail
      refine (validBoard_yes bc br _ HB.out).mono ?_
      rintro e w' ⟨rfl, rfl⟩
      go_wp2_with fail
      refine (validKind_f Hv.out _).mono ?_
      rintro e wa ⟨rfl, hb⟩
      go_wp2_with fail
      go_ret
      exact ⟨rfl, hb⟩
    | some p =>
      obtain ⟨ss, far⟩ := p
      simp only
      rw [if_pos hB]
      obtain ⟨h1, h2, h3, h4⟩ := hB
      exact specPieces_yes bc br s w hk h1 h2 h3 h4
  · have hz : piecesP bc br s.toList = -1 := by
      unfold piecesP
      cases kindL s.toList with
      | none => rfl
      | some p => obtain ⟨ss, far⟩ := p; simp only; rw [if_neg hB]
    rw [hz]
    have HB := hide hB
    clear hz hB
    go_enter Try.func15, Try.ntmps15
    go_wp2_with fail
    refine (validBoard_no bc br _ HB.out).mono ?_
    rintro e w' ⟨rfl, rfl⟩
    go_wp2_with fail
    go_ret
    exact ⟨rfl, Below.refl _ _⟩
theorem implPieces_c (bc br : Int) (s : ByteArray) (w : World) : Calls Try.prog 14 #[.int .i64 bc, .int .i64 br, .string s] w (Plain (.int .i64 (piecesP bc br s.toList)) w) := by
  unfold piecesP
  cases hk : kindL s.toList with
  | none => exact implPieces_no bc br s w (by simp [hk])
  | some p =>
    obtain ⟨ss, far⟩ := p
    simp only
    by_cases hB : Brd bc br
    · rw [if_pos hB]
      obtain ⟨N, out, hp⟩ := parts_of hB (kind_six hk)
      obtain ⟨h1, h2, h3, h4⟩ := hB
      have := implPieces_yes bc br s w hk h1 h2 h3 h4
      have e1 := hp.impl
      have e2 := hp.spec
      simp only at e1 e2
      rw [hp.area, Int.toNat_natCast] at this ⊢
      rw [e1] at this
      rw [e2]
      exact this
    · rw [if_neg hB]
      exact implPieces_no bc br s w (fun h => hB h.1)
theorem exactPieces_w (a0 a1 : Int) (s : ByteArray) (w : World) (hs : s.size ≤ maxLen) : Calls Try.prog 5 #[.int .i64 a0, .int .i64 a1, .string s] w (Plain (.bool true) w) := by
  unfold maxLen at hs
  by_cases hk : 1048576 < (s.size : Int)
  · go_enter Try.func5, Try.ntmps5
    go_wp2
    go_ret
    exact ⟨rfl, Below.refl _ _⟩
  · go_enter Try.func5, Try.ntmps5
    go_wp2_with fail
    refine (specPieces_c a0 a1 s _).mono ?_
    rintro e w1 ⟨rfl, b1⟩
    go_wp2_with fail
    refine (implPieces_c a0 a1 s _).mono ?_
    rintro e w2 ⟨rfl, b2⟩
    generalize piecesP a0 a1 s.toList = x
    have hx : (x != x) = false := by simp
    go_wp2_with fail
    go_ret
    exact ⟨rfl, below_then b1 b1.size b2⟩
end Go.Proofs.Ytljojjkaeclcfaa
