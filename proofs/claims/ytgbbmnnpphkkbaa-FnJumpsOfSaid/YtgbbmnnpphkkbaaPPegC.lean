
/-
  The program's pegs: jumpsOf.
-/
import Derived.Test.YtgbbmnnpphkkbaaPPegB
import Derived.Test.YtgbbmnnpphkkbaaMoveA
namespace Go.Proofs.Ytgbbmnnpphkkbaa
open Go.RowKit
set_option linter.unusedVariables false

def cells3 (L : List Jump) : List Value := L.flatMap fun j => [.int .i64 (j.1 : Int), .int .i64 (j.2.1 : Int), .int .i64 (j.2.2 : Int)]
theorem cells3_app (L M : List Jump) : cells3 (L ++ M) = cells3 L ++ cells3 M := by simp [cells3]
theorem cells3_len (L : List Jump) : (cells3 L).length = L.length * 3 := by
  induction L with
  | nil => rfl
  | cons j L ih =>
    rw [show cells3 (j :: L) = [.int .i64 (j.1 : Int), .int .i64 (j.2.1 : Int), .int .i64 (j.2.2 : Int)] ++ cells3 L from rfl, List.length_append, ih]
    simp only [List.length_cons, List.length_nil]
    omega
theorem cells3_at : ∀ (L : List Jump) (k : Nat), k < L.length → (cells3 L)[k * 3]? = some (.int .i64 (((L[k]?.getD (0, 0, 0)).1 : Nat) : Int)) ∧ (cells3 L)[k * 3 + 1]? = some (.int .i64 (((L[k]?.getD (0, 0, 0)).2.1 : Nat) : Int)) ∧ (cells3 L)[k * 3 + 2]? = some (.int .i64 (((L[k]?.getD (0, 0, 0)).2.2 : Nat) : Int))
  | j :: L, 0, _ => ⟨rfl, rfl, rfl⟩
  | j :: L, k + 1, h => by
    have := cells3_at L k (by simpa using h)
    rw [show cells3 (j :: L) = [.int .i64 (j.1 : Int), .int .i64 (j.2.1 : Int), .int .i64 (j.2.2 : Int)] ++ cells3 L from rfl]
    rw [List.getElem?_append_right (by simp; omega), List.getElem?_append_right (by simp; omega), List.getElem?_append_right (by simp; omega)]
    simp only [List.length_cons, List.length_nil, List.getElem?_cons_succ]
    rw [show (k + 1) * 3 - (0 + 1 + 1 + 1) = k * 3 by omega, show (k + 1) * 3 + 1 - (0 + 1 + 1 + 1) = k * 3 + 1 by omega, show (k + 1) * 3 + 2 - (0 + 1 + 1 + 1) = k * 3 + 2 by omega]
    exact this
theorem cells3_one (L : List Jump) : ∀ u ∈ cells3 L, u.oneCell' = true := by
  intro u hu
  simp only [cells3, List.mem_flatMap] at hu
  obtain ⟨j, _, hu⟩ := hu
  simp at hu
  rcases hu with rfl | rfl | rfl <;> rfl
theorem elem_jump : Elem Try.prog 46 3 24 := Elem.of (z := .agg #[.int .i64 0, .int .i64 0, .int .i64 0]) (by kernel_rfl) rfl (by omega)

theorem step_no1 {w h s i : Nat} {p : Int × Int} (h1 : nextP (w : Int) (h : Int) p.1 p.2 (i : Int) = none) : stepJ w h s i p = [] := by
  unfold stepJ farStep; rw [h1]
theorem step_no2 {w h s i : Nat} {p : Int × Int} {a : Int} (h1 : nextP (w : Int) (h : Int) p.1 p.2 (i : Int) = some a) (h2 : nextP (w : Int) (h : Int) p.1 p.2 a = none) : stepJ w h s i p = [] := by
  unfold stepJ farStep; rw [h1]; simp only [h2]
theorem step_yes {w h s i : Nat} {p : Int × Int} {o l : Nat} (h1 : nextP (w : Int) (h : Int) p.1 p.2 (i : Int) = some (o : Int)) (h2 : nextP (w : Int) (h : Int) p.1 p.2 (o : Int) = some (l : Int)) : stepJ w h s i p = if isP s (i, o, l) then [(i, o, l)] else [] := by
  unfold stepJ farStep; rw [h1]; simp only [h2, Int.toNat_natCast]
theorem on_bd {bc br dr dc x : Int} (h1 : 1 ≤ bc) (h2 : bc ≤ 5) (h3 : 1 ≤ br) (h4 : br ≤ 5) : 0 ≤ (onP (nextP bc br dr dc x)).1 ∧ (onP (nextP bc br dr dc x)).1 < 25 := by
  cases hn : nextP bc br dr dc x with
  | none => simp [onP]
  | some y =>
    have h5 := (next_parts h1 h2 h3 h4 hn).1
    have h6 := mul_bd h1 h2 h3 h4
    simp only [onP]
    omega
theorem straight_at {q : Nat} (hq : q < 4) : ∃ dr dc, straight[q]? = some (dr, dc) ∧ -2 ≤ dr ∧ dr ≤ 2 ∧ -2 ≤ dc ∧ dc ≤ 2 := by
  have : q = 0 ∨ q = 1 ∨ q = 2 ∨ q = 3 := by omega
  rcases this with rfl | rfl | rfl | rfl
  · exact ⟨-1, 0, rfl, by omega, by omega, by omega, by omega⟩
  · exact ⟨0, -1, rfl, by omega, by omega, by omega, by omega⟩
  · exact ⟨0, 1, rfl, by omega, by omega, by omega, by omega⟩
  · exact ⟨1, 0, rfl, by omega, by omega, by omega, by omega⟩
set_option maxHeartbeats 4000000 in
set_option maxRecDepth 100000 in
theorem jumpsOf_c (w h s : Nat) (W : World) (hw : 1 ≤ w ∧ w ≤ 5) (hh : 1 ≤ h ∧ h ≤ 5) (h12 : w * h ≤ 12) (hs : s < 4096) :
    Calls Try.prog 29 #[boardV (w : Int) (h : Int), .int .i64 (s : Int)] W (Owns 46 3 (jumpL w (w * h) s).length (cells3 (jumpL w (w * h) s)) W) := by
  have w1 : (1 : Int) ≤ (w : Int) := by omega
  have w5 : (w : Int) ≤ 5 := by omega
  have h1 : (1 : Int) ≤ (h : Int) := by omega
  have h5 : (h : Int) ≤ 5 := by omega
  have bx0 := Box.new W 40 #[.int .i64 (w : Int), .int .i64 (h : Int)]
  have HZ := hide (fun w6 => by
    have := size_c (w : Int) (h : Int) w6 w1 w5 h1 h5
    rw [← Int.natCast_mul] at this
    exact this)
  have HST := hide (fun w6 => straight_c w6)
  have HON := hide (fun (cell dr dc : Int) (g1 : 0 ≤ cell) (g2 : cell < 25) (g3 : -2 ≤ dr) (g4 : dr ≤ 2) (g5 : -2 ≤ dc) (g6 : dc ≤ 2) w6 => onward_anyP (w : Int) (h : Int) cell dr dc w6 w1 w5 h1 h5 g1 g2 g3 g4 g5 g6)
  have HBD := hide (fun (dr dc x : Int) => on_bd (bc := (w : Int)) (br := (h : Int)) (dr := dr) (dc := dc) (x := x) w1 w5 h1 h5)
  have HNX := hide (fun (dr dc x y : Int) (e : nextP (w : Int) (h : Int) dr dc x = some y) => show 0 ≤ y ∧ y < ((w * h : Nat) : Int) from by
    have := (next_parts w1 w5 h1 h5 e).1
    rw [← Int.natCast_mul] at this
    exact this)
  have HIS := hide (fun (i o l : Nat) (hi : i < 12) (ho : o < 12) (hl : l < 12) w6 => isOf_c i o l s hi ho hl hs w6)
  have HALL := hide (fun (i : Nat) (hi : i < w * h) => stepTo_all (s := s) hw hh h12 hi)
  have hall := hide (jumpTo_all w (w * h) s)
  have HLEN := hide (fun i => jumpTo_len w (w * h) s i)
  generalize hn : w * h = n at *
  clear hw hh hn
  go_enter Try.func29, Try.ntmps29
  go_wp2_with fail
  refine (HZ.out _).mono ?_
  rintro e w2 ⟨rfl, b2⟩
  have bx2 := bx0.then b2
  have bw2 : Below W.heap.size W w2 := below_then ((Below.refl _ _).alloc (Nat.le_refl _) _) (by simp) b2
  clear b2 bx0
  go_wp2_with fail
  go_loopw [5, 16] (fun v x wr => ∃ i : Nat, i ≤ n ∧ x = .int .i64 (i : Int) ∧ wr.ownsRow W.heap.size 46 3 v (jumpTo w n s i).length (cells3 (jumpTo w n s i)) ∧ Below W.heap.size W wr ∧ Box wr W.heap.size 40 #[.int .i64 (w : Int), .int .i64 (h : Int)]) (fun _ x _ => n - (intOf x).toNat)
  case atStart => exact ⟨0, Nat.zero_le _, rfl, World.ownsRow_nil _ _ _ _, bw2, bx2⟩
  case round =>
    obtain ⟨i, hi, rfl, own, hb, bx⟩ := hrel
    obtain ⟨wo, rfl⟩ : ∃ wo : World, wo = wr := ⟨_, rfl⟩
    by_cases hlt : i < n
    · have HSI := hide (show jumpTo w n s (i + 1) = jumpTo w n s i ++ stepTo w h s i 4 by rw [jumpTo_succ, HALL.out i hlt])
      have hjl : (jumpTo w n s i).length ≤ 144 := by
        have h1 := HLEN.out i
        have h2 : i * n ≤ 12 * 12 := Nat.mul_le_mul (by omega) (by omega)
        omega
      have hb3 := hb.alloc hb.size (.cells #[.int .i64 (-1), .int .i64 0, .int .i64 0, .int .i64 (-1), .int .i64 0, .int .i64 1, .int .i64 1, .int .i64 0] 65)
      have own3 := own.alloc (.cells #[.int .i64 (-1), .int .i64 0, .int .i64 0, .int .i64 (-1), .int .i64 0, .int .i64 1, .int .i64 1, .int .i64 0] 65)
      have bx3 := bx.alloc (.cells #[.int .i64 (-1), .int .i64 0, .int .i64 0, .int .i64 (-1), .int .i64 0, .int .i64 1, .int .i64 1, .int .i64 0] 65)
      have bs3 := Box.new wo 65 #[.int .i64 (-1), .int .i64 0, .int .i64 0, .int .i64 (-1), .int .i64 0, .int .i64 1, .int .i64 1, .int .i64 0]
      go_wp2_with fail
      refine (HST.out _).mono ?_
      rintro e w3 ⟨rfl, rfl⟩
      generalize wo.alloc (.cells #[.int .i64 (-1), .int .i64 0, .int .i64 0, .int .i64 (-1), .int .i64 0, .int .i64 1, .int .i64 1, .int .i64 0] 65) = w3 at *
      generalize hgs : wo.heap.size = gs at *
      clear hgs own hb bx
      go_wp2_with fail
      go_loopw [5, 21] (fun v x wr => ∃ q : Nat, q ≤ 4 ∧ x = .int .i64 (q : Int) ∧ wr.ownsRow W.heap.size 46 3 v (jumpTo w n s i ++ stepTo w h s i q).length (cells3 (jumpTo w n s i ++ stepTo w h s i q)) ∧ Below W.heap.size W wr ∧ Box wr W.heap.size 40 #[.int .i64 (w : Int), .int .i64 (h : Int)] ∧ Box wr gs 65 #[.int .i64 (-1), .int .i64 0, .int .i64 0, .int .i64 (-1), .int .i64 0, .int .i64 1, .int .i64 1, .int .i64 0]) (fun _ x _ => 4 - (intOf x).toNat)
      case atStart => exact ⟨0, Nat.zero_le _, rfl, by rw [show stepTo w h s i 0 = [] from rfl, List.append_nil]; exact own3, hb3, bx3, bs3⟩
      case round =>
        clear own3 hb3 bx3 bs3
        obtain ⟨q, hq, rfl, own, hb, bx, bs⟩ := hrel
        obtain ⟨wi, rfl⟩ : ∃ wi : World, wi = wr := ⟨_, rfl⟩
        have zi := hb.size
        have zb := bx.in_
        have zs := bs.in_
        have c0 := bx.cell 0
        have c1 := bx.cell 1
        by_cases hql : q < 4
        · obtain ⟨dr, dc, hp, d1, d2, d3, d4⟩ := straight_at hql
          have hs3 : (jumpTo w n s i ++ stepTo w h s i q).length ≤ 148 := by
            have := stepTo_len w h s i q
            rw [List.length_append]; omega
          have HSQ := hide (stepTo_succ (w := w) (h := h) (s := s) (i := i) hp)
          obtain ⟨hca, hcb⟩ : wi.cell? ⟨gs, q * 2, none⟩ = some (.int .i64 dr) ∧ wi.cell? ⟨gs, q * 2 + 1, none⟩ = some (.int .i64 dc) := by
            have : q = 0 ∨ q = 1 ∨ q = 2 ∨ q = 3 := by omega
            rw [bs.cell, bs.cell]
            rcases this with rfl | rfl | rfl | rfl <;> (simp [straight] at hp; obtain ⟨rfl, rfl⟩ := hp; exact ⟨rfl, rfl⟩)
          have HO1 := hide (fun w6 => HON.out (i : Int) dr dc (by omega) (by omega) d1 d2 d3 d4 w6)
          have bd1 := HBD.out dr dc (i : Int)
          have HN1 := hide (fun (y : Int) (e : nextP (w : Int) (h : Int) dr dc (i : Int) = some y) => HNX.out dr dc (i : Int) y e)
          have HC1 : Hid (nextP (w : Int) (h : Int) dr dc (i : Int) = none ∧ (onP (nextP (w : Int) (h : Int) dr dc (i : Int))) = (0, false) ∨ ∃ o : Nat, o < n ∧ nextP (w : Int) (h : Int) dr dc (i : Int) = some (o : Int) ∧ (onP (nextP (w : Int) (h : Int) dr dc (i : Int))) = ((o : Int), true)) := by
            cases hnx : nextP (w : Int) (h : Int) dr dc (i : Int) with
            | none => exact .inl ⟨rfl, rfl⟩
            | some y =>
              obtain ⟨y0, y1⟩ := HN1.out y hnx
              obtain ⟨o, rfl⟩ := Int.eq_ofNat_of_zero_le y0
              exact .inr ⟨o, by omega, rfl, rfl⟩
          have q0 : (0 : Int) ≤ (q : Int) := by omega
          have q4 : (q : Int) < 4 := by omega
          have bst := Box.new wi 65 #[.int .i64 dr, .int .i64 dc]
          have own1 := own.alloc (.cells #[.int .i64 dr, .int .i64 dc] 65)
          have hb1 := hb.alloc hb.size (.cells #[.int .i64 dr, .int .i64 dc] 65)
          have bx1 := bx.alloc (.cells #[.int .i64 dr, .int .i64 dc] 65)
          have bs1 := bs.alloc (.cells #[.int .i64 dr, .int .i64 dc] 65)
          have HQ := hide hql
          obtain ⟨gst, hgst⟩ : ∃ gst, wi.heap.size = gst := ⟨_, rfl⟩
          have hOWN := hide (And.intro own1 (And.intro hb1 (And.intro bx1 (And.intro bs1 bst))))
          clear own hb bx bs own1 hb1 bx1 bs1 bst bd1 HN1 hgst
          rcases HC1.out with ⟨hn1, e1⟩ | ⟨o, ho, hn1, e1⟩
          · rw [e1] at HO1
            have HS0 := hide (HSQ.out.trans (by rw [step_no1 (p := (dr, dc)) hn1, List.append_nil]))
            have HO2 := hide (fun w6 => HON.out 0 dr dc (by omega) (by omega) d1 d2 d3 d4 w6)
            generalize onP (nextP (w : Int) (h : Int) dr dc 0) = pr at *
            obtain ⟨l', far⟩ := pr
            clear hn1 e1 HSQ HC1 hp
            go_wp2_with fail
            refine (HO1.out _).mono ?_
            rintro e w6 ⟨rfl, b6⟩
            obtain ⟨own1, hb1, bx1, bs1, bst⟩ := hOWN.out
            have own6 := own_below own1 b6
            have hb6 := below_then hb1 hb1.size b6
            have bx6 := bx1.then b6
            have bs6 := bs1.then b6
            have bt6 := bst.then b6
            have k0 := bx6.cell 0
            have k1 := bx6.cell 1
            have k2 := bt6.cell 0
            have k3 := bt6.cell 1
            clear own1 hb1 bx1 bs1 bst b6 hOWN hca hcb
            go_wp2_with fail
            refine (HO2.out _).mono ?_
            rintro e w7 ⟨rfl, b7⟩
            have own7 := (own_below own6 b7).alloc (.cells #[.int .i64 (i : Int), .int .i64 0, .int .i64 l'] 46)
            have hb7 := below_then hb6 hb6.size b7
            have hb8 := hb7.alloc hb7.size (.cells #[.int .i64 (i : Int), .int .i64 0, .int .i64 l'] 46)
            have bx7 := (bx6.then b7).alloc (.cells #[.int .i64 (i : Int), .int .i64 0, .int .i64 l'] 46)
            have bs7 := (bs6.then b7).alloc (.cells #[.int .i64 (i : Int), .int .i64 0, .int .i64 l'] 46)
            clear own6 hb6 bx6 bs6 bt6 b7 k0 k1 k2 k3 hb7
            go_wp2_with fail
            exact ⟨⟨q + 1, HQ.out, by go_num, by rw [HS0.out]; exact own7, hb8, bx7, bs7⟩, by simp [intOf]; omega⟩
          · rw [e1] at HO1
            have HO2 := hide (fun w6 => HON.out (o : Int) dr dc (by omega) (by omega) d1 d2 d3 d4 w6)
            have HC2 : Hid (nextP (w : Int) (h : Int) dr dc (o : Int) = none ∧ (onP (nextP (w : Int) (h : Int) dr dc (o : Int))) = (0, false) ∨ ∃ l : Nat, l < n ∧ nextP (w : Int) (h : Int) dr dc (o : Int) = some (l : Int) ∧ (onP (nextP (w : Int) (h : Int) dr dc (o : Int))) = ((l : Int), true)) := by
              cases hnx : nextP (w : Int) (h : Int) dr dc (o : Int) with
              | none => exact .inl ⟨rfl, rfl⟩
              | some y =>
                obtain ⟨y0, y1⟩ := HNX.out dr dc (o : Int) y hnx
                obtain ⟨l, rfl⟩ := Int.eq_ofNat_of_zero_le y0
                exact .inr ⟨l, by omega, rfl, rfl⟩
            clear e1 HC1
            go_wp2_with fail
            refine (HO1.out _).mono ?_
            rintro e w6 ⟨rfl, b6⟩
            obtain ⟨own1, hb1, bx1, bs1, bst⟩ := hOWN.out
            have own6 := own_below own1 b6
            have hb6 := below_then hb1 hb1.size b6
            have bx6 := bx1.then b6
            have bs6 := bs1.then b6
            have bt6 := bst.then b6
            have k0 := bx6.cell 0
            have k1 := bx6.cell 1
            have k2 := bt6.cell 0
            have k3 := bt6.cell 1
            clear own1 hb1 bx1 bs1 bst b6 hOWN hca hcb
            go_wp2_with fail
            refine (HO2.out _).mono ?_
            rintro e w7 ⟨rfl, b7⟩
            have bx7 := bx6.then b7
            have bs7 := bs6.then b7
            have own7 := own_below own6 b7
            have hb7 := below_then hb6 hb6.size b7
            clear own6 hb6 bx6 bs6 bt6 b7 k0 k1 k2 k3
            have hn1 := hide hn1
            rcases HC2.out with ⟨hn2, e2⟩ | ⟨l, hl, hn2, e2⟩
            · have HS0 := hide (HSQ.out.trans (by rw [step_no2 (p := (dr, dc)) hn1.out hn2, List.append_nil]))
              rw [e2]
              have own8 := own7.alloc (.cells #[.int .i64 (i : Int), .int .i64 (o : Int), .int .i64 0] 46)
              have hb8 := hb7.alloc hb7.size (.cells #[.int .i64 (i : Int), .int .i64 (o : Int), .int .i64 0] 46)
              have bx8 := bx7.alloc (.cells #[.int .i64 (i : Int), .int .i64 (o : Int), .int .i64 0] 46)
              have bs8 := bs7.alloc (.cells #[.int .i64 (i : Int), .int .i64 (o : Int), .int .i64 0] 46)
              clear hn2 e2 HSQ HC2 hp own7 hb7 bx7 bs7
              go_wp2_with fail
              exact ⟨⟨q + 1, HQ.out, by go_num, by rw [HS0.out]; exact own8, hb8, bx8, bs8⟩, by simp [intOf]; omega⟩
            · have HST' := hide (HSQ.out.trans (by rw [step_yes (s := s) (p := (dr, dc)) hn1.out hn2]))
              rw [e2]
              have HI := hide (fun w6 => HIS.out i o l (by omega) (by omega) (by omega) w6)
              have own8 := own7.alloc (.cells #[.int .i64 (i : Int), .int .i64 (o : Int), .int .i64 (l : Int)] 46)
              have hb8 := hb7.alloc hb7.size (.cells #[.int .i64 (i : Int), .int .i64 (o : Int), .int .i64 (l : Int)] 46)
              have bx8 := bx7.alloc (.cells #[.int .i64 (i : Int), .int .i64 (o : Int), .int .i64 (l : Int)] 46)
              have bs8 := bs7.alloc (.cells #[.int .i64 (i : Int), .int .i64 (o : Int), .int .i64 (l : Int)] 46)
              have bj8 := Box.new w7 46 #[.int .i64 (i : Int), .int .i64 (o : Int), .int .i64 (l : Int)]
              clear hn2 e2 HSQ HC2 hp own7 hb7 bx7 bs7
              cases hp : isP s (i, o, l) with
              | false =>
                have HS0 : Hid (stepTo w h s i (q + 1) = stepTo w h s i q) := by
                  show _ = _
                  rw [HST'.out, hp, if_neg Bool.false_ne_true, List.append_nil]
                rw [hp] at HI
                clear hp HST'
                go_wp2_with fail
                refine (HI.out _).mono ?_
                rintro e w8 ⟨rfl, b8⟩
                have own9 := own_below own8 b8
                have hb9 := below_then hb8 hb8.size b8
                have bx9 := bx8.then b8
                have bs9 := bs8.then b8
                clear own8 hb8 bx8 bs8 bj8 b8
                go_wp2_with fail
                exact ⟨⟨q + 1, HQ.out, by go_num, by rw [HS0.out]; exact own9, hb9, bx9, bs9⟩, by simp [intOf]; omega⟩
              | true =>
                have HS0 : Hid (stepTo w h s i (q + 1) = stepTo w h s i q ++ [(i, o, l)]) := by
                  show _ = _
                  rw [HST'.out, hp, if_pos rfl]
                rw [hp] at HI
                clear hp HST'
                go_wp2_with fail
                refine (HI.out _).mono ?_
                rintro e w8 ⟨rfl, b8⟩
                have own9 := (own_below own8 b8).alloc (.cells #[.int .i64 (i : Int), .int .i64 (o : Int), .int .i64 (l : Int)] 46)
                have hb9 := below_then hb8 hb8.size b8
                have hb9 := hb9.alloc hb9.size (.cells #[.int .i64 (i : Int), .int .i64 (o : Int), .int .i64 (l : Int)] 46)
                have bx9 := (bx8.then b8).alloc (.cells #[.int .i64 (i : Int), .int .i64 (o : Int), .int .i64 (l : Int)] 46)
                have bs9 := (bs8.then b8).alloc (.cells #[.int .i64 (i : Int), .int .i64 (o : Int), .int .i64 (l : Int)] 46)
                have bj9 := bj8.then b8
                have k0 := bj9.cell 0
                have k1 := bj9.cell 1
                have k2 := bj9.cell 2
                have hz9 := hide hb9.size
                clear own8 hb8 bx8 bs8 bj8 b8 bj9
                go_wp2_with ((at_builtin; refine put_own rfl (.tmp 52) (.tmp 54) rfl Try.underlying43 elem_jump rfl own9 rfl (m := 1) (news := [.int .i64 (i : Int), .int .i64 (o : Int), .int .i64 (l : Int)]) rfl (row_new _ _ _ (by first | rfl | simp)) (by simp [Value.oneCell']) (by omega) (by omega) hz9.out ?_; intro v5 w5' own5 hg5 ho5))
                have bx5 := bx9.grown hg5 (own_ne own9 bx9 (by decide))
                have bs5 := bs9.grown hg5 (own_ne own9 bs9 (by decide))
                have hb5 := below_grown hb9 hb9.size own9 (Nat.le_refl _) hg5
                refine ⟨⟨q + 1, HQ.out, by go_num, ?_, hb5, bx5, bs5⟩, by simp [intOf]; omega⟩
                rw [HS0.out, ← List.append_assoc, List.length_append, cells3_app]
                exact own5
        · obtain rfl : q = 4 := by omega
          rw [← HSI.out] at own
          go_wp2_with fail
          exact ⟨⟨i + 1, hlt, by go_num, own, hb, bx⟩, by simp [intOf]; omega⟩
    · obtain rfl : i = n := by omega
      rw [hall.out] at own
      go_wp2_with fail
      go_ret
      exact ⟨_, rfl, own, hb⟩
end Go.Proofs.Ytgbbmnnpphkkbaa
