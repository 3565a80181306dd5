/-
  AllMoves, Pieces, PieceA in one text.
-/
import Derived.Test.YtoapmmmmdfmaeacMoveN
import Derived.Test.YtoapmmmmdfmaeacPureM
import Derived.OwnWalk
/-
  AllMoves of the program and of the model.
-/
namespace Go.Proofs.Ytoapmmmmdfmaeac
open Go.RowKit
set_option linter.unusedVariables false

theorem flat_none : Flat none := fun ad e => by cases e
theorem implAllMoves_no (bc br : Int) (s : ByteArray) (w : World) (h : ¬ (Brd bc br ∧ (kindL s.toList).isSome = true)) : Calls Try.prog 35 #[.int .i64 bc, .int .i64 br, .string s] w (Plain (.int .i64 (-1)) w) := by
  have H := hide h
  clear h
  go_enter Try.func35, Try.ntmps35
  go_wp2_with fail
  refine (setUp_no bc br s _ H.out).mono ?_
  rintro e w1 ⟨x, y, pv, rfl, hb⟩
  go_wp2_with fail
  go_ret
  exact ⟨rfl, hb.alloc hb.size _⟩
set_option maxHeartbeats 1000000 in
theorem implAllMoves_yes (bc br : Int) (s : ByteArray) (w : World) {ss : List (Int × Int)} {far : Bool} (hk : kindL s.toList = some (ss, far)) (h1 : 1 ≤ bc) (h2 : bc ≤ 5) (h3 : 1 ≤ br) (h4 : br ≤ 5) :
    Calls Try.prog 35 #[.int .i64 bc, .int .i64 br, .string s] w (Plain (.int .i64 (sumP bc br far ss (bc * br).toNat)) w) := by
  obtain ⟨k1, k2, _⟩ := kind_ok hk
  obtain ⟨m1, m2⟩ := mul_bd h1 h2 h3 h4
  have Hk := hide hk
  clear hk
  go_enter Try.func35, Try.ntmps35
  go_wp2_with fail
  refine (setUp_yes bc br s _ Hk.out h1 h2 h3 h4).mono ?_
  rintro e w1 ⟨pv, rfl, hp, hb⟩
  have bx := Box.new w1 52 #[.int .i64 bc, .int .i64 br]
  have hp := hp.then ((Below.refl _ _).alloc (Nat.le_refl _) (.cells #[.int .i64 bc, .int .i64 br] 52))
  have hb := hb.alloc hb.size (.cells #[.int .i64 bc, .int .i64 br] 52)
  have z1 : w1.heap.size < (w1.alloc (.cells #[.int .i64 bc, .int .i64 br] 52)).heap.size := by simp
  go_wp2_with fail
  generalize w1.alloc (.cells #[.int .i64 bc, .int .i64 br] 52) = wa at *
  go_loopw [10, 11] (fun a i wr => ∃ k : Nat, (k : Int) ≤ bc * br ∧ i = .int .i64 k ∧ a = .int .i64 (sumP bc br far ss k) ∧ Below wa.heap.size wa wr) (fun _ i _ => (bc * br - intOf i).toNat)
  case atStart => exact ⟨0, by omega, rfl, rfl, Below.refl _ _⟩
  case round =>
    obtain ⟨k, hk, rfl, rfl, hbr⟩ := hrel
    obtain ⟨wo, rfl⟩ : ∃ wo : World, wo = wr := ⟨_, rfl⟩
    have bx2 := bx.then hbr
    have c0 := bx2.cell 0
    have c1 := bx2.cell 1
    obtain ⟨s1, s2⟩ := sum_bd bc br far ss k2 k
    by_cases hlt : (k : Int) < bc * br
    · go_wp2_with fail
      refine (size_c bc br _ h1 h2 h3 h4).mono ?_
      rintro e w2 ⟨rfl, hb2⟩
      have bx3 := bx2.then hb2
      have hbr2 := below_then hbr hbr.size hb2
      clear c0 c1
      have c0 := bx3.cell 0
      have c1 := bx3.cell 1
      go_wp2_with fail
      refine (reach_c bc br k _ pv far none 0 ss [] _ h1 h2 h3 h4 (by omega) hlt k1 k2 (hp.then hbr2) (Row.empty _ _) flat_none (by simp [maxLen])).mono ?_
      rintro e w3 ⟨v, rfl, hown, hb3⟩
      obtain ⟨A, c, rfl, _⟩ := own_row hown
      have HS : Hid (sumP bc br far ss (k + 1) = sumP bc br far ss k + ((reachP bc br far [] k ss).length : Int)) := rfl
      have hlen := reach_len bc br far [] k ss
      generalize reachP bc br far [] (k : Int) ss = L at *
      go_wp2_with fail
      exact ⟨⟨k + 1, by push_cast; omega, rfl, by rw [HS.out], below_then hbr2 hbr2.size hb3⟩, by simp [intOf]; omega⟩
    · have hkk : Hid ((bc * br).toNat = k) := hide (by omega)
      go_wp2_with fail
      refine (size_c bc br _ h1 h2 h3 h4).mono ?_
      rintro e w2 ⟨rfl, hb2⟩
      go_wp2_with fail
      go_ret
      exact ⟨by rw [hkk.out]; rfl, below_then hb hb.size (below_then hbr hbr.size hb2)⟩
theorem implAllMoves_c (bc br : Int) (s : ByteArray) (w : World) : Calls Try.prog 35 #[.int .i64 bc, .int .i64 br, .string s] w (Plain (.int .i64 (allMovesP bc br s.toList)) w) := by
  unfold allMovesP
  cases hk : kindL s.toList with
  | none => exact implAllMoves_no bc br s w (by simp [hk])
  | some p =>
    obtain ⟨ss, far⟩ := p
    simp only
    by_cases hB : Brd bc br
    · rw [if_pos hB]
      obtain ⟨h1, h2, h3, h4⟩ := hB
      exact implAllMoves_yes bc br s w hk h1 h2 h3 h4
    · rw [if_neg hB]
      exact implAllMoves_no bc br s w (fun h => hB h.1)

end Go.Proofs.Ytoapmmmmdfmaeac

/-
  The parts of a board: as cells that no earlier one reaches, and as cells that no part met before holds; over all boards by the kernel. Plain mathematics.
-/
namespace Go.Proofs.Ytoapmmmmdfmaeac
open Go Go.RowKit
set_option linter.unusedVariables false

/-- No cell before n is reached, by the row. -/
def firstP (row : List Int) (n : Nat) : Bool := (List.range n).all fun k => decide (row[k]?.getD 0 < 0)
def partsS (M : Nat → List Int) : Nat → Nat
  | 0 => 0
  | n + 1 => if firstP (M n) n then partsS M n + 1 else partsS M n
/-- The first j of N cells are met too, where the row comes to. -/
def metTo (row : List Int) (met : List Bool) (N j : Nat) : List Bool := (List.range N).map fun t => if t < j then met[t]?.getD false || decide (0 ≤ row[t]?.getD 0) else met[t]?.getD false
def partsI (M : Nat → List Int) (N : Nat) : Nat → List Bool × Nat
  | 0 => (List.replicate N false, 0)
  | k + 1 => if (partsI M N k).1[k]?.getD false then partsI M N k else (metTo (M k) (partsI M N k).1 N N, (partsI M N k).2 + 1)
theorem partsS_congr {M M' : Nat → List Int} : ∀ n, (∀ k, k < n → M k = M' k) → partsS M n = partsS M' n
  | 0, _ => rfl
  | n + 1, h => by rw [partsS, partsS, partsS_congr n (fun k hk => h k (by omega)), h n (by omega)]
theorem partsI_congr {M M' : Nat → List Int} (N : Nat) : ∀ n, (∀ k, k < n → M k = M' k) → partsI M N n = partsI M' N n
  | 0, _ => rfl
  | n + 1, h => by rw [partsI, partsI, partsI_congr N n (fun k hk => h k (by omega)), h n (by omega)]
theorem partsS_le (M : Nat → List Int) : ∀ n, partsS M n ≤ n
  | 0 => Nat.le_refl _
  | n + 1 => by have := partsS_le M n; rw [partsS]; split <;> omega
theorem partsI_le (M : Nat → List Int) (N : Nat) : ∀ n, (partsI M N n).2 ≤ n ∧ (partsI M N n).1.length = N
  | 0 => ⟨Nat.le_refl _, by simp [partsI]⟩
  | n + 1 => by
    have := partsI_le M N n
    rw [partsI]
    split
    · exact ⟨by omega, this.2⟩
    · exact ⟨by simp only; omega, by simp [metTo]⟩
theorem metTo_zero (row : List Int) (met : List Bool) (N : Nat) (h : met.length = N) : metTo row met N 0 = met := by
  apply List.ext_getElem
  · simp [metTo, h]
  · intro i h1 h2
    simp [metTo, List.getElem?_eq_getElem h2]
theorem metTo_len (row : List Int) (met : List Bool) (N j : Nat) : (metTo row met N j).length = N := by simp [metTo]
theorem metTo_at (row : List Int) (met : List Bool) (N j i : Nat) (hi : i < N) : (metTo row met N j)[i]?.getD false = if i < j then met[i]?.getD false || decide (0 ≤ row[i]?.getD 0) else met[i]?.getD false := by
  simp [metTo, List.getElem?_map, List.getElem?_range hi]
theorem metTo_succ (row : List Int) (met : List Bool) (N j : Nat) (hj : j < N) : metTo row met N (j + 1) = (metTo row met N j).set j (met[j]?.getD false || decide (0 ≤ row[j]?.getD 0)) := by
  apply List.ext_getElem
  · simp [metTo]
  · intro i h1 h2
    simp only [metTo, List.length_map, List.length_range] at h1
    simp only [metTo, List.getElem_map, List.getElem_range, List.getElem_set]
    by_cases hij : j = i
    · subst hij; simp
    · rw [if_neg hij]
      by_cases h3 : i < j
      · rw [if_pos (by omega), if_pos h3]
      · rw [if_neg (by omega), if_neg h3]
theorem first_step {row : List Int} {n k : Nat} : firstP row (k + 1) = (firstP row k && decide (row[k]?.getD 0 < 0)) := by
  simp [firstP, List.range_succ, List.all_append]

def pieceOk (bc br : Int) (p : List (Int × Int) × Bool) : Bool :=
  let N := (bc * br).toNat
  let T := tabP bc br p.2 p.1
  let L := (List.range N).map (movesT T N)
  let out := partsS (fun n => L[n]?.getD []) N
  (partsI (fun n => L[n]?.getD []) N N).2 == out && decide (1 ≤ out) && decide (out ≤ N) &&
    (if p == (slanted, true) then out == (if bc == 1 || br == 1 then N else 2) else p == (knights, false) || out == 1)
def pieceAll (p : List (Int × Int) × Bool) : Prop := ∀ a : Fin 5, ∀ b : Fin 5, pieceOk ((a.val : Int) + 1) ((b.val : Int) + 1) p = true
instance (p : List (Int × Int) × Bool) : Decidable (pieceAll p) := by unfold pieceAll; infer_instance
set_option maxRecDepth 100000 in
theorem pieces_step : pieceAll (straight, false) := by decide +kernel
set_option maxRecDepth 100000 in
theorem pieces_king : pieceAll (both, false) := by decide +kernel
set_option maxRecDepth 100000 in
theorem pieces_knight : pieceAll (knights, false) := by decide +kernel
set_option maxRecDepth 100000 in
theorem pieces_rook : pieceAll (straight, true) := by decide +kernel
set_option maxRecDepth 100000 in
theorem pieces_bishop : pieceAll (slanted, true) := by decide +kernel
set_option maxRecDepth 100000 in
theorem pieces_queen : pieceAll (both, true) := by decide +kernel
theorem pieces_all (p : List (Int × Int) × Bool) (h : p ∈ six) : pieceAll p := by
  simp only [six, List.mem_cons, List.not_mem_nil, or_false] at h
  rcases h with rfl | rfl | rfl | rfl | rfl | rfl
  · exact pieces_step
  · exact pieces_king
  · exact pieces_knight
  · exact pieces_rook
  · exact pieces_bishop
  · exact pieces_queen
end Go.Proofs.Ytoapmmmmdfmaeac

/-
  The program's PiecesOf.
-/
namespace Go.Proofs.Ytoapmmmmdfmaeac
open Go.RowKit
set_option linter.unusedVariables false

abbrev bools (l : List Bool) : List Value := l.map Value.bool
theorem bools_at {l : List Bool} {k : Nat} (h : k < l.length) : (bools l)[k]? = some (.bool (l[k]?.getD false)) := by
  rw [bools, List.getElem?_map, List.getElem?_eq_getElem h]; rfl
theorem bools_set (l : List Bool) (i : Nat) (u : Bool) : (bools l).set i (.bool u) = bools (l.set i u) := by simp [bools, List.map_set]
theorem made_of {P : Program} {e : TypeId} {z : Value} {size bytes : Nat} (h : (P.info? e).map (fun i => (i.zero, i.size, i.bytes)) = some (some z, size, bytes)) : ∃ i, P.info? e = some i ∧ i.zero = some z ∧ i.size = size ∧ i.bytes = bytes := by
  cases hi : P.info? e with
  | none => simp [hi] at h
  | some i =>
    simp only [hi, Option.map_some, Option.some.injEq, Prod.mk.injEq] at h
    exact ⟨i, rfl, h.1, h.2.1, h.2.2⟩
theorem made_own {w : World} {base : Nat} {e : TypeId} {v : Value} {n : Nat} {z : Value} (hz : z.cells = #[z]) (h : w.ownsRow base e 1 v n (madeCells z.cells (n * 1)).toList) : w.ownsRow base e 1 v n (List.replicate n z) := by
  rwa [hz, Nat.mul_one, toList_madeCells_one] at h
theorem parts_goes {M : Nat → List Int} {N k : Nat} {met : List Bool} {p : Nat} (h : partsI M N k = (met, p)) (hm : met[k]?.getD false = true) : partsI M N (k + 1) = (met, p) := by
  rw [partsI, h]; simp [hm]
theorem parts_new {M : Nat → List Int} {N k : Nat} {met : List Bool} {p : Nat} (h : partsI M N k = (met, p)) (hm : met[k]?.getD false = false) : partsI M N (k + 1) = (metTo (M k) met N N, p + 1) := by
  rw [partsI, h]; simp [hm]
theorem movesP_len {bc br : Int} {far : Bool} {ss : List (Int × Int)} {N : Nat} (h1 : 1 ≤ bc) (h2 : bc ≤ 5) (h3 : 1 ≤ br) (h4 : br ≤ 5) (hN : bc * br = (N : Int)) (c : Nat) (hc : c < N) : (movesP bc br far ss (c : Int)).length = N := by
  have hin : ∀ x, ∀ y ∈ reachP bc br far [] x ss, 0 ≤ y ∧ y < (N : Int) := fun x y hy => by
    unfold reachP at hy
    rw [List.mem_mergeSort] at hy
    have := cells_in h1 h2 h3 h4 y hy
    rwa [hN] at this
  have hm := Met.start (N := N) (cell := (c : Int)) (by omega) (by omega)
  unfold movesP
  rw [hN]
  exact bfs_len bc br far ss hin 26 _ 0 hm

theorem implPieces_no (bc br : Int) (s : ByteArray) (w : World) (h : ¬ (Brd bc br ∧ (kindL s.toList).isSome = true)) : Calls Try.prog 34 #[.int .i64 bc, .int .i64 br, .string s] w (Plain (.int .i64 (-1)) w) := by
  have H := hide h
  clear h
  go_enter Try.func34, Try.ntmps34
  go_wp2_with fail
  refine (setUp_no bc br s _ H.out).mono ?_
  rintro e w1 ⟨x, y, pv, rfl, hb⟩
  go_wp2_with fail
  go_ret
  exact ⟨rfl, hb.alloc hb.size _⟩
set_option maxHeartbeats 2000000 in
set_option maxRecDepth 100000 in
theorem implPieces_yes (bc br : Int) (s : ByteArray) (w : World) {ss : List (Int × Int)} {far : Bool} (hk : kindL s.toList = some (ss, far)) (h1 : 1 ≤ bc) (h2 : bc ≤ 5) (h3 : 1 ≤ br) (h4 : br ≤ 5) :
    Calls Try.prog 34 #[.int .i64 bc, .int .i64 br, .string s] w (Plain (.int .i64 ((partsI (fun n => movesP bc br far ss (n : Int)) (bc * br).toNat (bc * br).toNat).2 : Nat)) w) := by
  obtain ⟨k1, k2, _⟩ := kind_ok hk
  obtain ⟨m1, m2⟩ := mul_bd h1 h2 h3 h4
  obtain ⟨N, hN⟩ : ∃ N : Nat, bc * br = (N : Int) := ⟨(bc * br).toNat, by omega⟩
  have hN1 : 1 ≤ N := by omega
  have hN2 : N ≤ 25 := by omega
  have Hk := hide hk
  clear hk
  have hsize := hide (fun (w5 : World) => show Calls Try.prog 52 #[boardV bc br] w5 (Plain (.int .i64 (N : Int)) w5) by
    have := size_c bc br w5 h1 h2 h3 h4; rwa [hN] at this)
  obtain ⟨M, hM⟩ : ∃ M : Nat → List Int, ∀ n : Nat, M n = movesP bc br far ss (n : Int) := ⟨_, fun _ => rfl⟩
  have hlen := hide (fun (c : Nat) (hc : c < N) => show (M c).length = N by rw [hM]; exact movesP_len h1 h2 h3 h4 hN c hc)
  have hmov := hide (fun (c : Nat) (hc : c < N) (pv : Value) (B0 : Nat) (w5 : World) (hp5 : IsPiece w5 B0 pv ss far) => show Calls Try.prog _ #[boardV bc br, pv, .int .i64 (c : Int)] w5 (Owns 3 1 N (ints (M c)) w5) by
    have := movesFrom_c bc br (c : Int) B0 pv far ss w5 h1 h2 h3 h4 (by omega) (by omega) (hide k1) k2 hp5
    rwa [movesP_len h1 h2 h3 h4 hN c hc, ← hM] at this)
  have HB : Hid (∀ n : Nat, n = N → Value.int .i64 ((partsI (fun n => movesP bc br far ss (n : Int)) (bc * br).toNat (bc * br).toNat).2 : Nat) = .int .i64 ((partsI M n n).2 : Nat)) := fun n hn => by
    rw [hn, hN, Int.toNat_natCast, show (fun n : Nat => movesP bc br far ss (n : Int)) = M from funext fun n => (hM n).symm]
  obtain ⟨i0, hi0, hz0, hz1, hz2⟩ := made_of (P := Try.prog) (e := 4) (z := .bool false) (size := 1) (bytes := 1) (by kernel_rfl)
  clear hM hN m1 m2
  go_enter Try.func34, Try.ntmps34
  go_wp2_with fail
  refine (setUp_yes bc br s _ Hk.out h1 h2 h3 h4).mono ?_
  rintro e w1 ⟨pv, rfl, hp, hb⟩
  have bx := Box.new w1 52 #[.int .i64 bc, .int .i64 br]
  have hp := hp.then ((Below.refl _ _).alloc (Nat.le_refl _) (.cells #[.int .i64 bc, .int .i64 br] 52))
  have hb := hb.alloc hb.size (.cells #[.int .i64 bc, .int .i64 br] 52)
  have z1 : w1.heap.size < (w1.alloc (.cells #[.int .i64 bc, .int .i64 br] 52)).heap.size := by simp
  go_wp2_with fail
  generalize w1.alloc (.cells #[.int .i64 bc, .int .i64 br] 52) = wa at *
  have c0 := bx.cell 0
  have c1 := bx.cell 1
  go_wp2_with fail
  refine (hsize.out _).mono ?_
  rintro e w2 ⟨rfl, b2⟩
  clear c0 c1
  have zw2 := b2.size
  go_wp2_with ((at_make; refine wpList_make_full _ rfl (.tmp 26) (.tmp 26) 94 rfl w2.heap.size 4 i0 (.bool false) 1 Try.underlying94 hi0 hz0 hz1 .i64 .i64 N N N rfl rfl rfl rfl (by rw [hz2]; omega) (by simp [maxLen]; omega) (Nat.le_refl _) ?_; intro w3 own3 hg3; have own3 := made_own rfl own3; have b3 := b2.grown hg3 b2.size (fun k h => by cases h); clear hg3))
  generalize w2.heap.size = g at *
  go_loopw [11, 30] (fun a i wr => ∃ (k : Nat) (met : List Bool) (p : Nat), k ≤ N ∧ Hid (partsI M N k = (met, p)) ∧ i = .int .i64 (k : Int) ∧ a = .int .i64 (p : Int) ∧ wr.ownsRow g 4 1 (.slice (some ⟨g, 0, none⟩) N N) N (bools met) ∧ Below wa.heap.size wa wr) (fun _ i _ => N - (intOf i).toNat)
  case atStart => exact ⟨0, List.replicate N false, 0, Nat.zero_le _, rfl, rfl, rfl, by simpa [bools] using own3, b3⟩
  case round =>
    obtain ⟨k, met, p, hk, hst, rfl, rfl, hown, hbr⟩ := hrel
    obtain ⟨wo, rfl⟩ : ∃ wo : World, wo = wr := ⟨_, rfl⟩
    have hle := partsI_le M N k
    rw [hst.out] at hle
    obtain ⟨hle1, hle2⟩ := hle
    simp only at hle1 hle2
    have zo := hbr.size
    have gl := (hown.lt g rfl).2
    by_cases hlt : k < N
    · have hcm := hown.cellAt k (by omega)
      rw [bools_at (by omega)] at hcm
      obtain ⟨m, hm⟩ : ∃ m, met[k]?.getD false = m := ⟨_, rfl⟩
      rw [hm] at hcm
      cases m with
      | true =>
        have Hs := hide (parts_goes hst.out hm)
        clear hm
        go_wp2_with fail
        exact ⟨⟨k + 1, met, p, hlt, Hs.out, rfl, rfl, hown, hbr⟩, by simp [intOf]; omega⟩
      | false =>
        have Hs := hide (parts_new hst.out hm)
        clear hm
        have bx2 := bx.then hbr
        have c0 := bx2.cell 0
        have c1 := bx2.cell 1
        have HL := hide (hlen.out k hlt)
        go_wp2_with fail
        refine (hmov.out k hlt _ _ _ (hp.then hbr)).mono ?_
        rintro e w5 ⟨v5, rfl, o5, b5⟩
        obtain ⟨A5, c5, rfl, _⟩ := own_row o5
        have own5 := own_below hown b5
        have hb5 := below_then hbr hbr.size b5
        clear c0 c1
        generalize M k = row at *
        have hlr : row.length = N := HL.out
        go_wp2_with fail
        go_loopw [44] (fun i wi => ∃ j : Nat, j ≤ N ∧ i = .int .i64 (j : Int) ∧ wi.ownsRow g 4 1 (.slice (some ⟨g, 0, none⟩) N N) N (bools (metTo row met N j)) ∧ wi.ownsRow wo.heap.size 3 1 (.slice A5 N c5) N (ints row) ∧ Below wa.heap.size wa wi) (fun i _ => N - (intOf i).toNat)
        case atStart => exact ⟨0, Nat.zero_le _, rfl, by rw [metTo_zero _ _ _ hle2]; exact own5, o5, hb5⟩
        case round =>
          clear own5 o5 hb5
          obtain ⟨j, hj, rfl, ownm, ownr, hbi⟩ := hrel
          obtain ⟨wi, rfl⟩ : ∃ wi : World, wi = wr := ⟨_, rfl⟩
          by_cases hjl : j < N
          · obtain ⟨ad, rfl, hcr⟩ := (own_reads ownr).int (k := j) (by omega)
            have hcj := ownm.cellAt j (by omega)
            have hfj := ownm.frozenAt j
            rw [bools_at (by rw [metTo_len]; exact hjl), metTo_at _ _ _ _ _ hjl, if_neg (Nat.lt_irrefl j)] at hcj
            have Hsucc := hide (metTo_succ row met N j hjl)
            obtain ⟨m, hm⟩ : ∃ m, met[j]?.getD false = m := ⟨_, rfl⟩
            obtain ⟨x, hx⟩ : ∃ x, row[j]?.getD 0 = x := ⟨_, rfl⟩
            rw [hm, hx] at Hsucc
            rw [hm] at hcj
            rw [hx] at hcr
            clear hm hx
            have st : ∀ b : Bool, (m || decide (0 ≤ x)) = b → (wi.setCell ⟨g, j, none⟩ (.bool b)).ownsRow g 4 1 (.slice (some ⟨g, 0, none⟩) N N) N (bools (metTo row met N (j + 1))) ∧ (wi.setCell ⟨g, j, none⟩ (.bool b)).ownsRow wo.heap.size 3 1 (.slice (some ad) N c5) N (ints row) ∧ Below wa.heap.size wa (wi.setCell ⟨g, j, none⟩ (.bool b)) := fun b hb => by
              obtain ⟨ost, gst⟩ := ownm.stored j (.bool b)
              rw [bools_set] at ost
              refine ⟨by rw [Hsucc.out, hb]; exact ost, own_free ownr gst (fun e => by have := (ownr.lt _ e).1; omega), hbi.grown gst hbi.size (fun n e => by injection e with e; omega)⟩
            have ST := hide st
            clear st
            have j0 : (0 : Int) ≤ (j : Int) := by omega
            have j1 : (j : Int) < (N : Int) := by omega
            cases m with
            | true =>
              obtain ⟨s1, s2, s3⟩ := ST.out true (by simp)
              have S1 := hide s1
              have S2 := hide s2
              have S3 := hide s3
              clear s1 s2 s3
              go_wp2_with fail
              exact ⟨⟨j + 1, hjl, rfl, S1.out, S2.out, S3.out⟩, by simp [intOf]; omega⟩
            | false =>
              by_cases hx : 0 ≤ x
              · obtain ⟨s1, s2, s3⟩ := ST.out true (by simp [hx])
                have S1 := hide s1
                have S2 := hide s2
                have S3 := hide s3
                clear s1 s2 s3
                go_wp2_with fail
                exact ⟨⟨j + 1, hjl, rfl, S1.out, S2.out, S3.out⟩, by simp [intOf]; omega⟩
              · obtain ⟨s1, s2, s3⟩ := ST.out false (by simp [hx])
                have S1 := hide s1
                have S2 := hide s2
                have S3 := hide s3
                clear s1 s2 s3
                go_wp2_with fail
                exact ⟨⟨j + 1, hjl, rfl, S1.out, S2.out, S3.out⟩, by simp [intOf]; omega⟩
          · have hjN : Hid (j = N) := hide (by omega)
            go_wp2_with fail
            go_round
            case rel => exact ⟨k + 1, metTo row met N N, p + 1, hlt, Hs.out, rfl, rfl, by rw [← hjN.out]; rw [hjN.out] at ownm ⊢; exact ownm, hbi⟩
            case measure => simp [intOf]; omega
    · have hkN : Hid (k = N) := hide (by omega)
      go_wp2_with fail
      go_ret
      refine ⟨?_, below_then hb hb.size hbr⟩
      rw [HB.out N rfl, ← hkN.out]
      have := hst.out
      rw [← hkN.out] at this
      rw [this]
      rfl
end Go.Proofs.Ytoapmmmmdfmaeac
