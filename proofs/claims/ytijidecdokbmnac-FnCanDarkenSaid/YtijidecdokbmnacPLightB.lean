
/-
  The program's lights: rows of presses and lights in memory; pressRows.
-/
import Derived.Test.YtijidecdokbmnacPLightA
import Derived.OwnWalk
namespace Go.Proofs.Ytijidecdokbmnac
open Go.RowKit
set_option linter.unusedVariables false

/-- Rows of two sets, one after the other, as cells. -/
def cells2 (R : List Row2) : List Value := R.flatMap fun p => [.int .i64 ((p.1 : Nat) : Int), .int .i64 ((p.2 : Nat) : Int)]
theorem cells2_cons (p : Row2) (R : List Row2) : cells2 (p :: R) = .int .i64 ((p.1 : Nat) : Int) :: .int .i64 ((p.2 : Nat) : Int) :: cells2 R := rfl
theorem cells2_len (R : List Row2) : (cells2 R).length = R.length * 2 := by
  induction R with
  | nil => rfl
  | cons p R ih => rw [cells2_cons, List.length_cons, List.length_cons, ih, List.length_cons]; omega
theorem cells2_app (R T : List Row2) : cells2 (R ++ T) = cells2 R ++ cells2 T := by simp [cells2]
theorem cells2_one (R : List Row2) : ∀ u ∈ cells2 R, u.oneCell' = true := by
  intro u hu
  simp only [cells2, List.mem_flatMap, List.mem_cons, List.not_mem_nil, or_false] at hu
  obtain ⟨p, _, rfl | rfl⟩ := hu <;> rfl
theorem cells2_at : ∀ (R : List Row2) (k : Nat), k < R.length → (cells2 R)[k * 2]? = some (.int .i64 (((R[k]?.getD (0, 0)).1 : Nat) : Int)) ∧ (cells2 R)[k * 2 + 1]? = some (.int .i64 (((R[k]?.getD (0, 0)).2 : Nat) : Int))
  | [], k, h => absurd h (by simp)
  | p :: R, 0, _ => by rw [cells2_cons]; simp
  | p :: R, k + 1, h => by
    have ih := cells2_at R k (by simpa using h)
    rw [cells2_cons, show (k + 1) * 2 = k * 2 + 1 + 1 by omega]
    simpa using ih
theorem cells2_set1 : ∀ (R : List Row2) (k : Nat), k < R.length → ∀ a : Nat, (cells2 R).set (k * 2) (.int .i64 (a : Int)) = cells2 (R.set k (a, (R[k]?.getD (0, 0)).2))
  | [], k, h, _ => absurd h (by simp)
  | p :: R, 0, _, a => by simp [cells2_cons]
  | p :: R, k + 1, h, a => by
    have ih := cells2_set1 R k (by simpa using h) a
    rw [cells2_cons, show (k + 1) * 2 = k * 2 + 1 + 1 by omega, List.set_cons_succ, List.set_cons_succ, ih]
    simp [cells2_cons]
theorem cells2_set2 : ∀ (R : List Row2) (k : Nat), k < R.length → ∀ a : Nat, (cells2 R).set (k * 2 + 1) (.int .i64 (a : Int)) = cells2 (R.set k ((R[k]?.getD (0, 0)).1, a))
  | [], k, h, _ => absurd h (by simp)
  | p :: R, 0, _, a => by simp [cells2_cons]
  | p :: R, k + 1, h, a => by
    have ih := cells2_set2 R k (by simpa using h) a
    rw [cells2_cons, show (k + 1) * 2 + 1 = k * 2 + 1 + 1 + 1 by omega, List.set_cons_succ, List.set_cons_succ, ih]
    simp [cells2_cons]
theorem cells2_made (n : Nat) : (madeCells #[Value.int .i64 0, Value.int .i64 0] (n * 2)).toList = cells2 (List.replicate n (0, 0)) := by
  have h1 : (madeCells #[Value.int .i64 0, Value.int .i64 0] (n * 2)).toList = List.replicate (n * 2) (Value.int .i64 0) := by
    rw [List.eq_replicate_iff]
    refine ⟨by simp [madeCells], fun b hb => ?_⟩
    simp only [madeCells, Array.toList_map, List.mem_map] at hb
    obtain ⟨i, _, rfl⟩ := hb
    rcases Nat.mod_two_eq_zero_or_one i with e | e <;> simp [e]
  have h2 : ∀ n : Nat, cells2 (List.replicate n (0, 0)) = List.replicate (n * 2) (Value.int .i64 0) := fun n => by
    induction n with
    | zero => rfl
    | succ n ih => rw [List.replicate_succ, cells2_cons, ih, show (n + 1) * 2 = n * 2 + 1 + 1 by omega]; rfl
  rw [h1, h2]
theorem own_row2 {W : World} {base g n c : Nat} {e : TypeId} {R : List Row2} (h : W.ownsRow base e 2 (.slice (some ⟨g, 0, none⟩) n c) n (cells2 R)) {k : Nat} (hk : k < n) :
    (W.cell? ⟨g, k * 2, none⟩ = some (.int .i64 (((R[k]?.getD (0, 0)).1 : Nat) : Int)) ∧ W.frozen? ⟨g, k * 2, none⟩ = false ∧ W.cell? ⟨g, k * 2 + 1, none⟩ = some (.int .i64 (((R[k]?.getD (0, 0)).2 : Nat) : Int)) ∧ W.frozen? ⟨g, k * 2 + 1, none⟩ = false) ∧
    (∀ a : Nat, (W.setCell ⟨g, k * 2, none⟩ (.int .i64 (a : Int))).ownsRow base e 2 (.slice (some ⟨g, 0, none⟩) n c) n (cells2 (R.set k (a, (R[k]?.getD (0, 0)).2))) ∧ W.grownBy (W.setCell ⟨g, k * 2, none⟩ (.int .i64 (a : Int))) (some g)) ∧
    (∀ a : Nat, (W.setCell ⟨g, k * 2 + 1, none⟩ (.int .i64 (a : Int))).ownsRow base e 2 (.slice (some ⟨g, 0, none⟩) n c) n (cells2 (R.set k ((R[k]?.getD (0, 0)).1, a))) ∧ W.grownBy (W.setCell ⟨g, k * 2 + 1, none⟩ (.int .i64 (a : Int))) (some g)) := by
  have hl : R.length = n := by have := h.1; rw [cells2_len] at this; omega
  obtain ⟨a1, a2⟩ := cells2_at R k (by omega)
  refine ⟨⟨(h.cellAt (k * 2) (by omega)).trans a1, h.frozenAt _, (h.cellAt (k * 2 + 1) (by omega)).trans a2, h.frozenAt _⟩, fun a => ?_, fun a => ?_⟩
  · obtain ⟨o, gr⟩ := h.stored (k * 2) (.int .i64 (a : Int))
    rw [cells2_set1 R k (by omega)] at o
    exact ⟨o, gr⟩
  · obtain ⟨o, gr⟩ := h.stored (k * 2 + 1) (.int .i64 (a : Int))
    rw [cells2_set2 R k (by omega)] at o
    exact ⟨o, gr⟩
theorem Row.row2 {w : World} {g : Nat} {R : List Row2} (h : Row w (some ⟨g, 0, none⟩) (cells2 R)) {k : Nat} (hk : k < R.length) :
    w.cell? ⟨g, k * 2, none⟩ = some (.int .i64 (((R[k]?.getD (0, 0)).1 : Nat) : Int)) ∧ w.cell? ⟨g, k * 2 + 1, none⟩ = some (.int .i64 (((R[k]?.getD (0, 0)).2 : Nat) : Int)) := by
  obtain ⟨e1, e2⟩ := cells2_at R k hk
  obtain ⟨l1, f1⟩ := List.getElem?_eq_some_iff.1 e1
  obtain ⟨l2, f2⟩ := List.getElem?_eq_some_iff.1 e2
  obtain ⟨_, ⟨rfl⟩, hc⟩ := h _ l1
  obtain ⟨_, ⟨rfl⟩, hc2⟩ := h _ l2
  rw [add0] at hc hc2
  exact ⟨by rw [hc, f1], by rw [hc2, f2]⟩

/-- What the first j cells are turned by a press. -/
def turnTo (w h p : Nat) : Nat → Nat
  | 0 => 0
  | j + 1 => if nearB w h p j then turnTo w h p j ||| 2 ^ j else turnTo w h p j
theorem turn_lt (w h p : Nat) : ∀ j, turnTo w h p j < 2 ^ j
  | 0 => by simp [turnTo]
  | j + 1 => by
    have ih := turn_lt w h p j
    have p2 : 2 ^ j < 2 ^ (j + 1) := Nat.pow_lt_pow_right (by omega) (by omega)
    simp only [turnTo]
    split
    · exact Nat.or_lt_two_pow (by omega) p2
    · omega
def turnOk (w h : Nat) : Bool := (List.range (w * h)).all fun p => turnTo w h p (w * h) == (litL w h)[p]?.getD 0
theorem turn_ok : ∀ a : Fin 5, ∀ b : Fin 5, (a.val + 1) * (b.val + 1) ≤ 12 → turnOk (a.val + 1) (b.val + 1) = true := by decide +kernel
theorem turn_is {w h : Nat} (hw : 1 ≤ w ∧ w ≤ 5) (hh : 1 ≤ h ∧ h ≤ 5) (h12 : w * h ≤ 12) {p : Nat} (hp : p < w * h) : turnTo w h p (w * h) = (litL w h)[p]?.getD 0 := by
  obtain ⟨a, rfl⟩ : ∃ a, w = a + 1 := ⟨w - 1, by omega⟩
  obtain ⟨b, rfl⟩ : ∃ b, h = b + 1 := ⟨h - 1, by omega⟩
  simpa using List.all_eq_true.1 (turn_ok ⟨a, by omega⟩ ⟨b, by omega⟩ h12) p (List.mem_range.2 hp)
def rowsAt (L : List Nat) (n k : Nat) : List Row2 := (List.range n).map fun i => if i < k then (2 ^ i, L[i]?.getD 0) else (0, 0)
theorem rowsAt_none (L : List Nat) (n : Nat) : rowsAt L n 0 = List.replicate n (0, 0) := by
  rw [List.eq_replicate_iff]
  refine ⟨by simp [rowsAt], fun b hb => ?_⟩
  simp only [rowsAt, List.mem_map] at hb
  obtain ⟨i, _, rfl⟩ := hb
  rw [if_neg (by omega)]
theorem rowsAt_all (L : List Nat) : rowsAt L L.length L.length = rowsP L := by
  unfold rowsAt rowsP
  exact List.map_congr_left fun i hi => by rw [if_pos (List.mem_range.1 hi)]
theorem rowsAt_at (L : List Nat) {n k : Nat} (hk : k < n) : (rowsAt L n k)[k]?.getD (0, 0) = (0, 0) := by
  unfold rowsAt
  rw [List.getElem?_map, List.getElem?_range hk]
  simp
theorem rowsAt_succ (L : List Nat) {n k : Nat} (hk : k < n) : (rowsAt L n k).set k (2 ^ k, L[k]?.getD 0) = rowsAt L n (k + 1) := by
  apply List.ext_getElem
  · simp [rowsAt]
  · intro i h1 h2
    rw [List.getElem_set]
    simp only [rowsAt, List.getElem_map, List.getElem_range]
    by_cases e : k = i
    · subst e
      rw [if_pos rfl, if_pos (by omega)]
    · rw [if_neg e]
      by_cases e2 : i < k
      · rw [if_pos e2, if_pos (by omega)]
      · rw [if_neg e2, if_neg (by omega)]
theorem rowsAt_set (L : List Nat) (n k : Nat) (a b : Row2) : ((rowsAt L n k).set k a).set k b = (rowsAt L n k).set k b := by simp
theorem rowsAt_get (L : List Nat) {n k : Nat} (hk : k < n) (a : Row2) : ((rowsAt L n k).set k a)[k]?.getD (0, 0) = a := by
  rw [List.getElem?_set_self (by simpa [rowsAt] using hk)]
  rfl

set_option maxHeartbeats 4000000 in
set_option maxRecDepth 100000 in
theorem pressRows_c (w h : Nat) (W : World) (hw : 1 ≤ w ∧ w ≤ 5) (hh : 1 ≤ h ∧ h ≤ 5) (h12 : w * h ≤ 12) :
    Calls Try.prog 30 #[boardV (w : Int) (h : Int)] W (Owns 44 2 (w * h) (cells2 (rowsP (litL w h))) W) := by
  have bx0 := Box.new W 34 #[.int .i64 (w : Int), .int .i64 (h : Int)]
  have hb0 : Below W.heap.size W (W.alloc (.cells #[.int .i64 (w : Int), .int .i64 (h : Int)] 34)) := (Below.refl _ _).alloc (Nat.le_refl _) _
  have HZ := hide (fun w6 => by
    have := size_c (w : Int) (h : Int) w6 (by omega) (by omega) (by omega) (by omega)
    rw [← Int.natCast_mul] at this
    exact this)
  have HE := hide (fun (p q : Nat) (hp : p < w * h) w6 => effectOf_c w h p q w6 hw hh hp)
  have HTI := hide (fun (p : Nat) (hp : p < w * h) => turn_is hw hh h12 hp)
  have HTL := hide (fun p j => turn_lt w h p j)
  have HT0 := hide (fun p => show turnTo w h p 0 = 0 from rfl)
  have HTS := hide (fun p j => show turnTo w h p (j + 1) = if nearB w h p j then turnTo w h p j ||| 2 ^ j else turnTo w h p j from rfl)
  have hlen := litL_len w h
  rw [← rowsAt_all, hlen]
  obtain ⟨i0, hi0, hz0, hz1, hz2⟩ := (show ∃ i, Try.prog.info? 44 = some i ∧ i.zero = some (.agg #[.int .i64 0, .int .i64 0]) ∧ i.size = 2 ∧ i.bytes = 16 from by
    have h : (Try.prog.info? 44).map (fun i => (i.zero, i.size, i.bytes)) = some (some (.agg #[.int .i64 0, .int .i64 0]), 2, 16) := by kernel_rfl
    cases hi : Try.prog.info? 44 with
    | none => simp [hi] at h
    | some i =>
      simp only [hi, Option.map_some, Option.some.injEq, Prod.mk.injEq] at h
      exact ⟨i, rfl, h.1, h.2.1, h.2.2⟩)
  generalize litL w h = L at *
  generalize nearB w h = near at *
  generalize turnTo w h = turn at *
  generalize hn : w * h = n at *
  clear hn hlen
  go_enter Try.func30, Try.ntmps30
  go_wp2_with fail
  refine (HZ.out _).mono ?_
  rintro e w1 ⟨rfl, b1⟩
  have bx1 := bx0.then b1
  have b1 := below_then hb0 hb0.size b1
  clear bx0 hb0
  go_wp2_with ((at_make; go_loud (refine wpList_make_full _ rfl (.tmp 7) (.tmp 7) 37 rfl w1.heap.size 44 i0 (.agg #[.int .i64 0, .int .i64 0]) 2 Try.underlying37 hi0 hz0 hz1 .i64 .i64 n n n rfl rfl rfl rfl (by rw [hz2]; omega) (by unfold maxLen; omega) (Nat.le_refl _) ?_; intro w2 own2 hg2; have own2 : w2.ownsRow w1.heap.size 44 2 (.slice (some ⟨w1.heap.size, 0, none⟩) n n) n (cells2 (rowsAt L n 0)) := (by rw [rowsAt_none, ← cells2_made]; exact own2); have bx2 := bx1.grown hg2 (fun e => by cases e); have b2 := b1.grown hg2 b1.size (fun k h => by cases h); clear hg2)))
  have z1 := b1.size
  have hne : W.heap.size < w1.heap.size := bx1.in_
  generalize w1.heap.size = g at *
  go_loopw [11] (fun i wr => ∃ k : Nat, k ≤ n ∧ i = .int .i64 (k : Int) ∧ wr.ownsRow g 44 2 (.slice (some ⟨g, 0, none⟩) n n) n (cells2 (rowsAt L n k)) ∧ Below W.heap.size W wr ∧ Box wr W.heap.size 34 #[.int .i64 (w : Int), .int .i64 (h : Int)]) (fun i _ => n - (intOf i).toNat)
  case atStart => exact ⟨0, Nat.zero_le _, rfl, own2, b2, bx2⟩
  case round =>
    clear own2 b2 bx2 bx1 b1
    obtain ⟨k, hk, rfl, own, hb, bx⟩ := hrel
    obtain ⟨wo, rfl⟩ : ∃ wo : World, wo = wr := ⟨_, rfl⟩
    by_cases hlt : k < n
    · obtain ⟨⟨c1, c2, -, -⟩, hst, -⟩ := own_row2 own (k := k) hlt
      obtain ⟨o3, g3⟩ := hst (2 ^ k)
      rw [rowsAt_at L hlt] at c1 o3
      simp only at c1 o3
      have es := shl64 k (by omega)
      have o3 : (wo.setCell ⟨g, k * 2, none⟩ (.int .i64 ((2 ^ k : Nat) : Int))).ownsRow g 44 2 (.slice (some ⟨g, 0, none⟩) n n) n (cells2 ((rowsAt L n k).set k (2 ^ k, turn k 0))) := by rw [HT0.out k]; exact o3
      have hb3 := hb.grown g3 hb.size (fun z e => by injection e with e; omega)
      have bx3 := bx.grown g3 (fun e => by injection e with e; omega)
      have HX := hide (HTI.out k hlt)
      have HTLk := hide (HTL.out k)
      have HTSk := hide (HTS.out k)
      have HEk := hide (fun q w6 => HE.out k q hlt w6)
      have HSU := hide (rowsAt_succ L hlt)
      have HGET := hide (fun a => rowsAt_get L hlt a)
      have k0 : (0 : Int) ≤ (k : Int) := by omega
      have k1 : (k : Int) < (n : Int) := by omega
      rw [← HX.out] at HSU
      generalize turn k = tk at *
      generalize near k = nk at *
      have O3 := hide o3
      clear hst own hb bx g3 o3
      generalize 2 ^ k = P at *
      go_wp2_with fail
      go_loopw [22] (fun i wi => ∃ j : Nat, j ≤ n ∧ i = .int .i64 (j : Int) ∧ wi.ownsRow g 44 2 (.slice (some ⟨g, 0, none⟩) n n) n (cells2 ((rowsAt L n k).set k (P, tk j))) ∧ Below W.heap.size W wi ∧ Box wi W.heap.size 34 #[.int .i64 (w : Int), .int .i64 (h : Int)]) (fun i _ => n - (intOf i).toNat)
      case atStart => exact ⟨0, Nat.zero_le _, rfl, O3.out, hb3, bx3⟩
      case round =>
        clear O3 hb3 bx3 c1 c2
        obtain ⟨j, hj, rfl, own, hb, bx⟩ := hrel
        obtain ⟨wi, rfl⟩ : ∃ wi : World, wi = wr := ⟨_, rfl⟩
        by_cases hjl : j < n
        · have b0 := bx.cell 0
          have b1 := bx.cell 1
          have hE := HEk.out j
          have hTS := HTSk.out j
          have hTL := HTLk.out j
          have p12 := pow12 (n := j) (by omega)
          have j0 : (0 : Int) ≤ (j : Int) := by omega
          have j1 : (j : Int) < (n : Int) := by omega
          cases hnk : nk j with
          | false =>
            rw [hnk] at hE hTS
            simp only [Bool.false_eq_true, if_false] at hE hTS
            have HEj := hide hE
            have HTj := hide hTS
            clear hE hTS hnk
            go_wp2_with fail
            refine (HEj.out _).mono ?_
            rintro e w5 ⟨rfl, b5⟩
            have own5 := own_below own b5
            have bx5 := bx.then b5
            have hb5 := below_then hb hb.size b5
            go_wp2_with fail
            exact ⟨⟨j + 1, hjl, by go_num, by rw [HTj.out]; exact own5, hb5, bx5⟩, by simp [intOf]; omega⟩
          | true =>
            rw [hnk] at hE hTS
            simp only [if_true] at hE hTS
            have HEj := hide hE
            have HTj := hide hTS
            clear hE hTS hnk
            go_wp2_with fail
            refine (HEj.out _).mono ?_
            rintro e w5 ⟨rfl, b5⟩
            have own5 := own_below own b5
            have bx5 := bx.then b5
            have hb5 := below_then hb hb.size b5
            clear own bx hb b5 b0 b1
            obtain ⟨⟨-, -, c3, c4⟩, -, -⟩ := own_row2 own5 (k := k) hlt
            rw [HGET.out] at c3
            simp only at c3
            have eo := or64 (tk j) (2 ^ j) (by omega) (by omega)
            have es' := shl64 j (by omega)
            have HST := hide (fun (wd : World) (ow : wd.ownsRow g 44 2 (.slice (some ⟨g, 0, none⟩) n n) n (cells2 ((rowsAt L n k).set k (P, tk j)))) => show (wd.setCell ⟨g, k * 2 + 1, none⟩ (.int .i64 ((tk j ||| 2 ^ j : Nat) : Int))).ownsRow g 44 2 (.slice (some ⟨g, 0, none⟩) n n) n (cells2 ((rowsAt L n k).set k (P, tk (j + 1)))) ∧ wd.grownBy (wd.setCell ⟨g, k * 2 + 1, none⟩ (.int .i64 ((tk j ||| 2 ^ j : Nat) : Int))) (some g) by
              have := ((own_row2 ow (k := k) hlt).2.2 (tk j ||| 2 ^ j))
              rw [HGET.out, rowsAt_set] at this
              rw [HTj.out]
              exact this)
            generalize hx : tk j = x at *
            generalize 2 ^ j = Pj at *
            generalize x ||| Pj = y at *
            go_wp2_with fail
            go_still_tail 10, (by kernel_rfl)
            have od := own5.drew
            have bd := hb5.drew
            have bxd : Box w5.drew W.heap.size 34 #[.int .i64 (w : Int), .int .i64 (h : Int)] := bx5
            have c3d : w5.drew.cell? ⟨g, k * 2 + 1, none⟩ = some (.int .i64 (x : Int)) := c3
            have c4d : w5.drew.frozen? ⟨g, k * 2 + 1, none⟩ = false := c4
            change wpList _ _ _ _ _ w5.drew
            clear own5 hb5 bx5 c3 c4
            generalize w5.drew = wd at *
            obtain ⟨d1, d2⟩ := HST.out wd od
            have D1 := hide d1
            have D2 := hide (bd.grown d2 bd.size (fun z e => by injection e with e; omega))
            have D3 := hide (bxd.grown d2 (fun e => by injection e with e; omega))
            clear d1 d2 od bd bxd HST
            go_wp2_with fail
            exact ⟨⟨j + 1, hjl, by go_num, D1.out, D2.out, D3.out⟩, by simp [intOf]; omega⟩
        · obtain rfl : j = n := by omega
          rw [HSU.out] at own
          have Y1 := hide own
          have Y2 := hide hb
          have Y3 := hide bx
          clear own hb bx
          go_wp2_with fail
          go_round
          case rel => exact ⟨k + 1, hlt, by go_num, Y1.out, Y2.out, Y3.out⟩
          case measure => simp [intOf]; omega
    · obtain rfl : k = n := by omega
      go_wp2_with fail
      go_ret
      exact ⟨_, rfl, own_mono own (by omega), hb⟩
end Go.Proofs.Ytijidecdokbmnac
