
/-
  The program's pieces of the first cell that is left: firstPieces.
-/
import Derived.Test.YtnikgnicjbcbmabDoorPTileB
import Derived.Test.YtnikgnicjbcbmabDoorSpecC
namespace Go.Proofs.YtnikgnicjbcbmabDoor
open Go.RowKit
set_option linter.unusedVariables false

def pieceAt (w n left k : Nat) : List Nat :=
  if k = 0 then (if low left % w + 1 < w ∧ left.testBit (low left + 1) = true then [pair2 (low left) (low left + 1)] else [])
  else (if low left + w < n ∧ left.testBit (low left + w) = true then [pair2 (low left) (low left + w)] else [])
def piecesTo (w n left k : Nat) : List Nat := (List.range k).flatMap (pieceAt w n left)
theorem piecesTo_succ (w n left k : Nat) : piecesTo w n left (k + 1) = piecesTo w n left k ++ pieceAt w n left k := by
  unfold piecesTo
  rw [List.range_succ, List.flatMap_append]
  simp
theorem piecesTo_two (w n left : Nat) : piecesTo w n left 2 = pieces w n left := by
  rw [piecesTo_succ, piecesTo_succ]
  simp [piecesTo, pieceAt, pieces]
theorem piecesTo_len (w n left : Nat) : ∀ k, (piecesTo w n left k).length ≤ k
  | 0 => by simp [piecesTo]
  | k + 1 => by
    rw [piecesTo_succ, List.length_append]
    have := piecesTo_len w n left k
    have : (pieceAt w n left k).length ≤ 1 := by unfold pieceAt; split <;> split <;> simp
    omega
def natI (L : List Nat) : List Int := L.map fun (x : Nat) => Int.ofNat x
theorem natI_len (L : List Nat) : (natI L).length = L.length := by simp [natI]
theorem natI_at (L : List Nat) (k : Nat) : (natI L)[k]?.getD 0 = ((L[k]?.getD 0 : Nat) : Int) := by
  rw [natI, List.getElem?_map]
  cases L[k]? <;> rfl
theorem natI_app (L M : List Nat) : natI (L ++ M) = natI L ++ natI M := by simp [natI]
/-- One step on from the first cell: what onward answers, and whether the piece is one. -/
structure OnAt (w h left k : Nat) (dr dc : Int) (y : Nat) (on : Bool) : Prop where
  at_ : ([((0 : Int), (1 : Int)), (1, 0)] : List (Int × Int))[k]? = some (dr, dc)
  hit : on = true → y < w * h ∧ pieceAt w (w * h) left k = if left.testBit y = true then [pair2 (low left) y] else []
  miss : on = false → pieceAt w (w * h) left k = []
  run : ∀ W : World, Calls Tryd.prog 37 #[boardV (w : Int) (h : Int), .int .i64 (low left : Nat), .agg #[.int .i64 dr, .int .i64 dc]] W (Plain (.tuple #[.int .i64 (y : Int), .bool on]) W)
theorem onward_at {w h left : Nat} (hw : 1 ≤ w ∧ w ≤ 5) (hh : 1 ≤ h ∧ h ≤ 5) (han : low left < w * h) (k : Nat) (hk : k < 2) : ∃ (dr dc : Int) (y : Nat) (on : Bool), OnAt w h left k dr dc y on := by
  generalize hA : low left = a at *
  have h25 : w * h ≤ 25 := Nat.mul_le_mul hw.2 hh.2
  have w1 : (1 : Int) ≤ (w : Int) := by omega
  have w5 : (w : Int) ≤ 5 := by omega
  have h1 : (1 : Int) ≤ (h : Int) := by omega
  have h5 : (h : Int) ≤ 5 := by omega
  have dm : w * (a / w) + a % w = a := Nat.div_add_mod a w
  have ml : a % w < w := Nat.mod_lt _ (by omega)
  have dl : a / w < h := Nat.div_lt_of_lt_mul han
  have d0 : (0 : Int) ≤ ((a / w : Nat) : Int) := Int.natCast_nonneg _
  have m0 : (0 : Int) ≤ ((a % w : Nat) : Int) := Int.natCast_nonneg _
  have cd : ((a : Int) / (w : Int)) = ((a / w : Nat) : Int) := by push_cast; rfl
  have cm : ((a : Int) % (w : Int)) = ((a % w : Nat) : Int) := by push_cast; rfl
  obtain rfl | rfl : k = 0 ∨ k = 1 := by omega
  · by_cases hc : a % w + 1 < w
    · refine ⟨0, 1, a + 1, true, rfl, fun _ => ⟨?_, ?_⟩, (fun h => by cases h), fun W => ?_⟩
      · have : w * (a / w + 1) ≤ w * h := Nat.mul_le_mul_left _ dl
        rw [Nat.mul_add] at this
        omega
      · simp only [pieceAt, hA, hc, true_and, if_true]
      · rw [hA]
        have := onward_yes (w : Int) (h : Int) (a : Int) 0 1 W w1 w5 h1 h5 (by omega) (by omega) (by omega) (by omega) (by omega) (by omega) (by rw [cd]; omega) (by rw [cd]; omega) (by rw [cm]; omega) (by rw [cm]; omega)
        rw [cd, cm, show ((a / w : Nat) : Int) + 0 = ((a / w : Nat) : Int) by omega, ← Int.natCast_mul, show ((a / w * w : Nat) : Int) + (((a % w : Nat) : Int) + 1) = ((a + 1 : Nat) : Int) by have e := Nat.mul_comm (a / w) w; rw [e]; omega] at this
        exact this
    · refine ⟨0, 1, 0, false, rfl, (fun h => by cases h), fun _ => ?_, fun W => ?_⟩
      · simp only [pieceAt, hA, hc, false_and, if_false, if_true]
      · rw [hA]
        exact onward_no (w : Int) (h : Int) (a : Int) 0 1 W w1 w5 h1 h5 (by omega) (by omega) (by omega) (by omega) (by omega) (by omega) (by rw [cd, cm]; omega)
  · by_cases hc : a + w < w * h
    · have dl2 : a / w + 1 < h := by
        apply Nat.lt_of_not_le
        intro h'
        have : w * h ≤ w * (a / w + 1) := Nat.mul_le_mul_left _ h'
        rw [Nat.mul_add] at this
        omega
      refine ⟨1, 0, a + w, true, rfl, fun _ => ⟨hc, ?_⟩, (fun h => by cases h), fun W => ?_⟩
      · simp only [pieceAt, hA, if_neg (show ¬ (1 = 0) by omega), hc, true_and]
      · rw [hA]
        have := onward_yes (w : Int) (h : Int) (a : Int) 1 0 W w1 w5 h1 h5 (by omega) (by omega) (by omega) (by omega) (by omega) (by omega) (by rw [cd]; omega) (by rw [cd]; omega) (by rw [cm]; omega) (by rw [cm]; omega)
        rw [cd, cm, show ((a % w : Nat) : Int) + 0 = ((a % w : Nat) : Int) by omega, show ((a / w : Nat) : Int) + 1 = ((a / w + 1 : Nat) : Int) by omega, ← Int.natCast_mul, show (((a / w + 1) * w : Nat) : Int) + ((a % w : Nat) : Int) = ((a + w : Nat) : Int) by have e := Nat.mul_comm (a / w) w; rw [Nat.add_mul, e]; omega] at this
        exact this
    · have dl2 : ¬ (a / w + 1 < h) := by
        intro h'
        have : w * (a / w + 1 + 1) ≤ w * h := Nat.mul_le_mul_left _ h'
        rw [Nat.mul_add, Nat.mul_add] at this
        omega
      refine ⟨1, 0, 0, false, rfl, (fun h => by cases h), fun _ => ?_, fun W => ?_⟩
      · simp only [pieceAt, hA, if_neg (show ¬ (1 = 0) by omega), hc, false_and, if_false]
      · rw [hA]
        exact onward_no (w : Int) (h : Int) (a : Int) 1 0 W w1 w5 h1 h5 (by omega) (by omega) (by omega) (by omega) (by omega) (by omega) (by rw [cd, cm]; omega)

set_option maxHeartbeats 1000000 in
set_option maxRecDepth 100000 in
theorem firstPieces_c (w h left : Nat) (W : World) (hT : Tab W) (hw : 1 ≤ w ∧ w ≤ 5) (hh : 1 ≤ h ∧ h ≤ 5) (h0 : left ≠ 0) (hl : left < 2 ^ (w * h)) :
    Calls Tryd.prog 35 #[boardV (w : Int) (h : Int), .int .i64 (left : Int)] W (Owns 3 1 (pieces w (w * h) left).length (ints (natI (pieces w (w * h) left))) W) := by
  have h25 : w * h ≤ 25 := Nat.mul_le_mul hw.2 hh.2
  have hl25 := set25 h25 hl
  obtain ⟨-, -, l3⟩ := low_spec h0 hl (by omega)
  have HO := hide (fun (k : Nat) (hk : k < 2) => onward_at (left := left) hw hh l3 k hk)
  have HTZ := hide (fun (w5 : World) (h5 : Tab w5) => tz_c left (by omega) h0 w5 h5)
  have HTb := hide hT
  have ewu : IntKind.u64.wrap (left : Int) = (left : Int) := by rw [IntKind.wrap_u64]; omega
  have HP2 := hide (piecesTo_two w (w * h) left)
  have HPS := hide (fun k => piecesTo_succ w (w * h) left k)
  have HPL := hide (fun k => piecesTo_len w (w * h) left k)
  have bx0 := Box.new W 32 #[.int .i64 (w : Int), .int .i64 (h : Int)]
  have HB := hide (show ∀ i, low left < 25 by intro _; omega)
  have lowb : low left < 25 := by omega
  generalize hlow : low left = a at *
  clear hT h0 hl
  go_enter Tryd.func35, Tryd.ntmps35
  go_wp2_with fail
  refine (HTZ.out _ (HTb.out.below ((Below.refl _ _).alloc (Nat.le_refl _) _))).mono ?_
  rintro e w1 ⟨rfl, rfl⟩
  go_wp2_with fail
  have hb1 : Below W.heap.size W ((W.alloc (.cells #[.int .i64 (w : Int), .int .i64 (h : Int)] 32)).alloc (.cells #[.int .i64 0, .int .i64 1, .int .i64 1, .int .i64 0] 71)) := ((Below.refl _ _).alloc (Nat.le_refl _) _).alloc (by simp) _
  have hr1 : Row ((W.alloc (.cells #[.int .i64 (w : Int), .int .i64 (h : Int)] 32)).alloc (.cells #[.int .i64 0, .int .i64 1, .int .i64 1, .int .i64 0] 71)) (some ⟨W.heap.size + 1, 0, none⟩) (flat [(0, 1), (1, 0)]) := row_new _ _ _ (by simp)
  have bx1 := bx0.alloc (.cells #[.int .i64 0, .int .i64 1, .int .i64 1, .int .i64 0] 71)
  go_loopw [6, 18] (fun v i wr => ∃ (k : Nat), k ≤ 2 ∧ i = .int .i64 k ∧ wr.ownsRow (W.heap.size + 2) 3 1 v (piecesTo w (w * h) left k).length (ints (natI (piecesTo w (w * h) left k))) ∧
      Below W.heap.size W wr ∧ Box wr W.heap.size 32 #[.int .i64 (w : Int), .int .i64 (h : Int)] ∧ Row wr (some ⟨W.heap.size + 1, 0, none⟩) (flat [(0, 1), (1, 0)])) (fun _ i _ => 2 - (intOf i).toNat)
  case atStart => exact ⟨0, by omega, rfl, by simpa [piecesTo, natI] using World.ownsRow_nil _ _ _ _, hb1, bx1, hr1⟩
  case round =>
    obtain ⟨k, hk, rfl, hown, hb, bx, hr⟩ := hrel
    obtain ⟨wo, rfl⟩ : ∃ wo : World, wo = wr := ⟨_, rfl⟩
    have z := hb.size
    have zb := bx.in_
    have c0 := bx.cell 0
    have c1 := bx.cell 1
    by_cases hlt : k < 2
    · obtain ⟨dr, dc, y, on, hat, hhit, hmiss, hrun⟩ := HO.out k hlt
      rw [hlow] at hrun hhit
      obtain ⟨hca, hcb⟩ := hr.step (show k < [((0 : Int), (1 : Int)), (1, 0)].length from hlt)
      have hp : [((0 : Int), (1 : Int)), (1, 0)][k] = (dr, dc) := (List.getElem?_eq_some_iff.1 hat).2
      rw [hp] at hca hcb
      simp only at hca hcb
      have HR := hide hrun
      have HS := hide (HPS.out k)
      have HL := hide (HPL.out k)
      have Hh := hide hhit
      have Hm := hide hmiss
      clear hat hhit hmiss hrun hp
      go_wp2_with fail
      refine (HR.out _).mono ?_
      rintro e w2 ⟨rfl, hb2⟩
      have bx2 := (bx.alloc (.cells #[.int .i64 dr, .int .i64 dc] 71)).then hb2
      have hr2 := (hr.alloc (.cells #[.int .i64 dr, .int .i64 dc] 71)).below hb2
      have own2 := own_below (hown.alloc (.cells #[.int .i64 dr, .int .i64 dc] 71)) hb2
      have hb2' : Below W.heap.size W w2 := below_then (hb.alloc z _) (by simp; omega) hb2
      clear hb2 hca hcb c0 c1 zb hown bx hr hb
      cases on with
      | false =>
        have HS := hide ((HS.out).trans (by rw [Hm.out rfl, List.append_nil]))
        go_wp2_with fail
        exact ⟨⟨k + 1, by omega, by go_num, by rw [HS.out]; exact own2, hb2', bx2, hr2⟩, by simp [intOf]; omega⟩
      | true =>
        obtain ⟨hy, hpc⟩ := Hh.out rfl
        have HS := hide ((HS.out).trans (by rw [hpc]))
        have hy25 : y < 25 := by omega
        clear Hh Hm hpc
        have y0 : (0 : Int) ≤ (y : Int) := by omega
        have y1 : (y : Int) < 25 := by omega
        have hbt := bit_test left y (by omega)
        cases hb1 : left.testBit y with
        | false =>
          rw [hb1] at hbt
          have HS : Hid (piecesTo w (w * h) left (k + 1) = piecesTo w (w * h) left k) := HS.out.trans (by rw [hb1, if_neg (by decide), List.append_nil])
          go_wp2_with fail
          exact ⟨⟨k + 1, by omega, by go_num, by rw [HS.out]; exact own2, hb2', bx2, hr2⟩, by simp [intOf]; omega⟩
        | true =>
          rw [hb1] at hbt
          have HS : Hid (piecesTo w (w * h) left (k + 1) = piecesTo w (w * h) left k ++ [pair2 a y]) := HS.out.trans (by rw [hb1, if_pos rfl])
          have es := shlN a (by omega)
          have ey := shlN y (by omega)
          have px := powN (k := a) (by omega)
          have py := powN (k := y) (by omega)
          have eo := i64_orN _ _ px.2 py.2
          have hpp : Hid (pair2 a y = 2 ^ a ||| 2 ^ y) := rfl
          generalize pair2 a y = pv at *
          generalize (2 ^ a : Nat) = PA at *
          generalize (2 ^ y : Nat) = PY at *
          generalize PA ||| PY = po at *
          obtain rfl := hpp.out
          generalize hQ : piecesTo w (w * h) left k = Q at *
          have hQl : Q.length ≤ 2 := by have := HL.out; omega
          obtain ⟨A0, c0, rfl, _, _, _, hfr⟩ := own_row own2
          have a0 : (0 : Int) ≤ (a : Int) := by omega
          have a1 : (a : Int) < 25 := by omega
          have own2a := (own2.alloc (.cells #[.int .i64 (pv : Int)] 3)).drew
          have hb2a : Below W.heap.size W (w2.alloc (.cells #[.int .i64 (pv : Int)] 3)).drew := (hb2'.alloc hb2'.size _).drew
          have bx2a : Box (w2.alloc (.cells #[.int .i64 (pv : Int)] 3)).drew W.heap.size 32 #[.int .i64 (w : Int), .int .i64 (h : Int)] := bx2.alloc (.cells #[.int .i64 (pv : Int)] 3)
          have hr2a := (hr2.alloc (.cells #[.int .i64 (pv : Int)] 3)).drew
          clear hb1
          go_wp2_with fail
          go_region_held3 (fun w' => True) (trivial)
            (first
              | (refine step_put (by rfl) (.tmp 37) (.tmp 43) (by rfl) Tryd.underlying35 elem_int' (v := .slice A0 Q.length c0) (A := some ⟨w2.heap.size, 0, none⟩) (m := 1) (c := 1) (news := [.int .i64 (pv : Int)]) (B := W.heap.size + 2) (by rfl) own2a (by rfl) (by rfl) (row_new w2 _ _ rfl).drew (by simp [Value.oneCell']) (by omega) (by omega) (by have := bx2.in_; have := hb2'.size; simp; omega) ?_
                 intro v3 w3 hown3 hg3 ho3
                 have hb3' := below_grown hb2a hb2a.size own2a (by omega) hg3
                 have bx3 := bx2a.grown hg3 (own_ne own2a bx2a (by decide))
                 have hr3 := hr2a.grown hg3 (by
                   rintro _ ⟨rfl⟩ e
                   cases A0 with
                   | none => simp [Value.ownBlock] at e
                   | some ad =>
                     obtain ⟨g, rfl, hg, _⟩ := hfr ad rfl
                     simp [Value.ownBlock] at e
                     omega)))
          go_wp2_with fail
          refine ⟨⟨k + 1, by omega, by go_num, ?_, hb3', bx3, hr3⟩, by simp [intOf]; omega⟩
          rw [HS.out, natI_app]
          simpa [ints, natI] using hown3
    · obtain rfl : k = 2 := by omega
      obtain ⟨A0, c0, rfl, _⟩ := own_row hown
      go_wp2_with fail
      go_ret
      refine ⟨_, rfl, ?_, hb⟩
      rw [← HP2.out]
      exact own_mono hown (by omega)
end Go.Proofs.YtnikgnicjbcbmabDoor
