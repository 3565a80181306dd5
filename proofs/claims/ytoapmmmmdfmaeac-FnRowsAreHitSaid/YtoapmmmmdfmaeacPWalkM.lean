/-
  PWalkA, PWalkB, PWalkC, LeaveP in one text.
-/
import Derived.Test.YtoapmmmmdfmaeacWalkA
import Derived.Test.YtoapmmmmdfmaeacElimP
import Derived.Defers
import Derived.Test.YtoapmmmmdfmaeacSpecM
/-
  Walks by chance: the program's reduce.
-/
namespace Go.Proofs.Ytoapmmmmdfmaeac
open Go.RowKit
set_option linter.unusedVariables false

theorem grown_drewP {W w' : World} {r : Option Nat} (m : Nat) (h : (W.drewN m).grownBy w' r) : W.grownBy w' r := ⟨h.os, h.tape, h.output, h.size, h.block⟩
theorem grown_setP (W : World) (g i : Nat) (u : Value) : W.grownBy (W.setCell ⟨g, i, none⟩ u) (some g) := ⟨rfl, rfl, rfl, by simp, fun j _ hne => Below.heap_setCell W ⟨g, i, none⟩ u j (fun e => hne (by rw [e]))⟩
theorem grown_then {a b c : World} {g : Nat} (h : a.grownBy b (some g)) (k : b.grownBy c (some g)) : a.grownBy c (some g) :=
  ⟨k.os.trans h.os, k.tape.trans h.tape, k.output.trans h.output, Nat.le_trans h.size k.size, fun i hi hne => (k.block i (Nat.lt_of_lt_of_le hi h.size) hne).trans (h.block i hi hne)⟩
set_option maxHeartbeats 1000000 in
theorem reduce_d (g u d : Nat) (W : World) (md : FrameMode) (hb : Box W g 26 #[.int .i64 (u : Int), .int .i64 (d : Int)]) (hd : 1 ≤ d) (hu : u ≤ 4000000000000000000) (hdd : d ≤ 4000000000000000000) :
    CallsD Try.prog 61 #[.pointer (some ⟨g, 0, none⟩)] md W fun e md' w' => md' = md ∧ (e = .returned (.tuple #[]) ∧ Box w' g 26 #[.int .i64 ((fracP u d).1 : Int), .int .i64 ((fracP u d).2 : Int)] ∧ W.grownBy w' (some g)) := by
  have c0 := hb.cell 0
  have c1 := hb.cell 1
  have f0 := hb.free 0
  have f1 := hb.free 1
  have HB := hide hb
  clear hb
  go_enter_d Try.func61, Try.ntmps61
  go_wp2_with fail
  go_region
  all_goals go_wp2_with fail
  go_loopw [2, 3] (fun fv rv wr => ∃ x y m : Nat, fv = .int .i64 (x : Int) ∧ rv = .int .i64 (y : Int) ∧ x ≤ 4000000000000000000 ∧ y ≤ 4000000000000000000 ∧ Hid (Nat.gcd x y = Nat.gcd u d) ∧ wr = W.drewN m) (fun _ rv _ => (intOf rv).toNat)
  case atStart => exact ⟨d, u, 1, rfl, rfl, hdd, hu, Nat.gcd_comm d u, rfl⟩
  case round =>
    obtain ⟨x, y, m, rfl, rfl, hx, hy, hg, rfl⟩ := hrel
    by_cases hz : y = 0
    · subst hz
      have hxg := hg.out
      rw [Nat.gcd_zero_right] at hxg
      have hg1 := gcd_pos (u := u) hd
      rw [← hxg] at hg1
      have q1 : Int.tdiv (u : Int) (x : Int) = ((u / x : Nat) : Int) := rfl
      have q2 : Int.tdiv (d : Int) (x : Int) = ((d / x : Nat) : Int) := rfl
      have l1 := Nat.div_le_self u x
      have l2 := Nat.div_le_self d x
      have HV := hide (show fracP u d = (u / x, d / x) by unfold fracP; rw [← hxg])
      generalize u / x = p at *
      generalize d / x = q at *
      have hx0 : x ≠ 0 := by omega
      have hx0' : ¬ ((x : Int) = 0) := by omega
      have e1 : IntKind.i64.wrap (p : Int) = (p : Int) := IntWalk.i64_in _ (by omega)
      have e2 : IntKind.i64.wrap (q : Int) = (q : Int) := IntWalk.i64_in _ (by omega)
      clear hxg hg hg1
      have bx0 : Box (W.drewN m) g 26 #[.int .i64 (u : Int), .int .i64 (d : Int)] := HB.out
      have bx1 := bx0.set 0 (.int .i64 (p : Int))
      have t1 := bx1.cell 1
      have g1 := bx1.free 1
      have bx2 := hide (bx1.set 1 (.int .i64 (q : Int)))
      have HG := hide (grown_drewP m (grown_then (grown_setP (W.drewN m) g 0 (.int .i64 (p : Int))) (grown_setP ((W.drewN m).setCell ⟨g, 0, none⟩ (.int .i64 (p : Int))) g 1 (.int .i64 (q : Int)))))
      clear bx0 bx1
      go_wp2_with fail
      go_end0
      exact ⟨rfl, by rw [HV.out]; simpa using bx2.out, HG.out⟩
    · have hz0 : 0 < y := Nat.pos_of_ne_zero hz
      have hz1 : ¬ ((y : Int) = 0) := by omega
      have hz2 : (0 : Int) < (y : Int) := by omega
      have hlt : x % y < y := Nat.mod_lt x (by omega)
      have HG := hide (show Nat.gcd y (x % y) = Nat.gcd u d by rw [← hg.out, Nat.gcd_comm x y, Nat.gcd_rec y x, Nat.gcd_comm])
      have t1 : Int.tmod (x : Int) (y : Int) = ((x % y : Nat) : Int) := rfl
      have t2 : (x : Int) % (y : Int) = ((x % y : Nat) : Int) := rfl
      obtain ⟨z, hzz⟩ : ∃ z, x % y = z := ⟨_, rfl⟩
      rw [hzz] at hlt HG t1 t2
      have e1 : IntKind.i64.wrap (z : Int) = (z : Int) := IntWalk.i64_in _ (by omega)
      clear hg hzz
      go_wp2_with fail
      go_region
      all_goals go_wp2_with fail
      exact ⟨⟨y, z, m + 1, rfl, rfl, hy, by omega, HG.out, rfl⟩, by simp [intOf]; omega⟩
end Go.Proofs.Ytoapmmmmdfmaeac

/-
  Walks by chance: the program's whole, plus, times, over.
-/
namespace Go.Proofs.Ytoapmmmmdfmaeac
open Go.RowKit
set_option linter.unusedVariables false

theorem pWhole_c (u : Int) (w : World) : Calls Try.prog 38 #[.int .i64 u] w (Plain (.agg #[.int .i64 u, .int .i64 1]) w) := by
  go_enter Try.func38, Try.ntmps38
  go_wp2_with fail
  refine bodyPost_ret (res_frac rfl _ _ w.heap.size (.int .i64 u) (.int .i64 1) rfl (Box.new w 26 #[.int .i64 u, .int .i64 1])) rfl ?_
  exact ⟨rfl, (Below.refl _ _).alloc (Nat.le_refl _) _⟩
theorem three_new (w : World) (a b c : Array Value) : Box (((w.alloc (.cells a 26)).alloc (.cells b 26)).alloc (.cells c 26)) (w.heap.size + 1 + 1) 26 c ∧ Below w.heap.size w (((w.alloc (.cells a 26)).alloc (.cells b 26)).alloc (.cells c 26)) := by
  have h := Box.new ((w.alloc (.cells a 26)).alloc (.cells b 26)) 26 c
  have hs : ((w.alloc (.cells a 26)).alloc (.cells b 26)).heap.size = w.heap.size + 1 + 1 := by simp
  rw [hs] at h
  exact ⟨h, (((Below.refl _ w).alloc (Nat.le_refl _) _).alloc (by simp) _).alloc (by simp; omega) _⟩
theorem three_end {w w2 : World} {a b c : Array Value} (hg : (((w.alloc (.cells a 26)).alloc (.cells b 26)).alloc (.cells c 26)).grownBy w2 (some (w.heap.size + 1 + 1))) : Below w.heap.size w w2 :=
  (three_new w a b c).2.grown hg (three_new w a b c).2.size (fun k e => by injection e with e; omega)
set_option maxHeartbeats 1000000 in
theorem pPlus_c (a b : Nat × Nat) (w : World) (h : plusF a b = true) : Calls Try.prog 59 #[fracV a, fracV b] w (Plain (fracV (plusP a b)) w) := by
  obtain ⟨h1, h2, h3, h4, h5, h6⟩ := plusF_is h
  obtain ⟨p, q⟩ := a
  obtain ⟨r, s⟩ := b
  simp only at h1 h2 h3 h4 h5 h6
  have m4 : 1 ≤ q * s := Nat.mul_pos h1 h2
  have HV : Hid (plusP (p, q) (r, s) = fracP (p * s + r * q) (q * s)) := rfl
  have e1 : IntKind.i64.wrap ((p : Int) * (s : Int)) = ((p * s : Nat) : Int) := (IntWalk.i64_in _ (by rw [← Int.natCast_mul]; omega)).trans (Int.natCast_mul _ _).symm
  have e2 : IntKind.i64.wrap ((r : Int) * (q : Int)) = ((r * q : Nat) : Int) := (IntWalk.i64_in _ (by rw [← Int.natCast_mul]; omega)).trans (Int.natCast_mul _ _).symm
  have e3 : IntKind.i64.wrap ((q : Int) * (s : Int)) = ((q * s : Nat) : Int) := (IntWalk.i64_in _ (by rw [← Int.natCast_mul]; omega)).trans (Int.natCast_mul _ _).symm
  generalize p * s = x at *
  generalize r * q = y at *
  generalize q * s = z at *
  have e4 : IntKind.i64.wrap ((x : Int) + (y : Int)) = ((x + y : Nat) : Int) := (IntWalk.i64_in _ (by omega)).trans (by omega)
  obtain ⟨t, ht⟩ : ∃ t, x + y = t := ⟨_, rfl⟩
  rw [ht] at HV e4 h5
  rw [HV.out]
  clear ht HV h1 h2 h3 h4
  clear h
  go_enter_defers Try.func59, Try.ntmps59
  go_wp2_with fail
  refine leaves_cons (f := 61) (args := #[.pointer (some ⟨w.heap.size + 1 + 1, 0, none⟩)]) (by simp) (by simp [go_sem]) ?_
  refine (reduce_d (w.heap.size + 1 + 1) t z _ .returning (three_new w _ _ _).1 m4 h5 h6).mono ?_
  rintro e u' w2 ⟨rfl, rfl, bx, hg⟩
  exact ⟨_, res_frac rfl _ _ (w.heap.size + 1 + 1) _ _ rfl bx, rfl, three_end hg⟩
set_option maxHeartbeats 1000000 in
theorem pTimes_c (a b : Nat × Nat) (w : World) (h : timesF a b = true) : Calls Try.prog 60 #[fracV a, fracV b] w (Plain (fracV (timesP a b)) w) := by
  obtain ⟨h1, h2, h5, h6⟩ := timesF_is h
  obtain ⟨p, q⟩ := a
  obtain ⟨r, s⟩ := b
  simp only at h1 h2 h5 h6
  have m4 : 1 ≤ q * s := Nat.mul_pos h1 h2
  have HV : Hid (timesP (p, q) (r, s) = fracP (p * r) (q * s)) := rfl
  have e1 : IntKind.i64.wrap ((p : Int) * (r : Int)) = ((p * r : Nat) : Int) := (IntWalk.i64_in _ (by rw [← Int.natCast_mul]; omega)).trans (Int.natCast_mul _ _).symm
  have e2 : IntKind.i64.wrap ((q : Int) * (s : Int)) = ((q * s : Nat) : Int) := (IntWalk.i64_in _ (by rw [← Int.natCast_mul]; omega)).trans (Int.natCast_mul _ _).symm
  generalize p * r = t at *
  generalize q * s = z at *
  rw [HV.out]
  clear HV h1 h2
  clear h
  go_enter_defers Try.func60, Try.ntmps60
  go_wp2_with fail
  refine leaves_cons (f := 61) (args := #[.pointer (some ⟨w.heap.size + 1 + 1, 0, none⟩)]) (by simp) (by simp [go_sem]) ?_
  refine (reduce_d (w.heap.size + 1 + 1) t z _ .returning (three_new w _ _ _).1 m4 h5 h6).mono ?_
  rintro e u' w2 ⟨rfl, rfl, bx, hg⟩
  exact ⟨_, res_frac rfl _ _ (w.heap.size + 1 + 1) _ _ rfl bx, rfl, three_end hg⟩
set_option maxHeartbeats 1000000 in
theorem pOver_c (a b : Nat × Nat) (w : World) (h : quoF a b = true) : Calls Try.prog 39 #[fracV a, fracV b] w (Plain (fracV (quoP a b)) w) := by
  obtain ⟨h1, h2, h3, h5, h6⟩ := quoF_is h
  obtain ⟨p, q⟩ := a
  obtain ⟨r, s⟩ := b
  simp only at h1 h2 h3 h5 h6
  have m4 : 1 ≤ q * r := Nat.mul_pos h1 h2
  have HV : Hid (quoP (p, q) (r, s) = fracP (p * s) (q * r)) := rfl
  have e1 : IntKind.i64.wrap ((p : Int) * (s : Int)) = ((p * s : Nat) : Int) := (IntWalk.i64_in _ (by rw [← Int.natCast_mul]; omega)).trans (Int.natCast_mul _ _).symm
  have e2 : IntKind.i64.wrap ((q : Int) * (r : Int)) = ((q * r : Nat) : Int) := (IntWalk.i64_in _ (by rw [← Int.natCast_mul]; omega)).trans (Int.natCast_mul _ _).symm
  generalize p * s = t at *
  generalize q * r = z at *
  rw [HV.out]
  clear HV h1 h2 h3
  clear h
  go_enter_defers Try.func39, Try.ntmps39
  go_wp2_with fail
  refine leaves_cons (f := 61) (args := #[.pointer (some ⟨w.heap.size + 1 + 1, 0, none⟩)]) (by simp) (by simp [go_sem]) ?_
  refine (reduce_d (w.heap.size + 1 + 1) t z _ .returning (three_new w _ _ _).1 m4 h5 h6).mono ?_
  rintro e u' w2 ⟨rfl, rfl, bx, hg⟩
  exact ⟨_, res_frac rfl _ _ (w.heap.size + 1 + 1) _ _ rfl bx, rfl, three_end hg⟩
theorem pPlusC (a b : Nat × Nat) (w : World) (h : isF (plusC a b) = true) : Calls Try.prog 59 #[fracV a, fracV b] w (Plain (fracV (plusC a b)) w) := by
  obtain ⟨h1, h2⟩ := plusC_ok h
  rw [h2]
  exact pPlus_c a b w h1
theorem pTimesC (a b : Nat × Nat) (w : World) (h : isF (timesC a b) = true) : Calls Try.prog 60 #[fracV a, fracV b] w (Plain (fracV (timesC a b)) w) := by
  obtain ⟨h1, h2⟩ := timesC_ok h
  rw [h2]
  exact pTimes_c a b w h1
theorem pOverC (a b : Nat × Nat) (w : World) (h : isF (quoC a b) = true) : Calls Try.prog 39 #[fracV a, fracV b] w (Plain (fracV (quoC a b)) w) := by
  obtain ⟨h1, h2⟩ := quoC_ok h
  rw [h2]
  exact pOver_c a b w h1
end Go.Proofs.Ytoapmmmmdfmaeac

/-
  Rows of fractions, and of stops, of the call's own, in memory.
-/
namespace Go.Proofs.Ytoapmmmmdfmaeac
open Go.RowKit
set_option linter.unusedVariables false

/-! ### Cells by blocks of one size -/
def flatN (n : Nat) (f : Nat → List Value) : List Value := (List.range n).flatMap f
theorem flatN_succ (n : Nat) (f : Nat → List Value) : flatN (n + 1) f = flatN n f ++ f n := by simp [flatN, List.range_succ]
theorem flatN_len {sz : Nat} {f : Nat → List Value} (hf : ∀ i, (f i).length = sz) : ∀ n, (flatN n f).length = n * sz
  | 0 => by simp [flatN]
  | n + 1 => by rw [flatN_succ, List.length_append, flatN_len hf n, hf, Nat.add_mul, Nat.one_mul]
theorem flatN_at {sz : Nat} {f : Nat → List Value} (hf : ∀ i, (f i).length = sz) : ∀ {n i j}, i < n → j < sz → (flatN n f)[i * sz + j]? = (f i)[j]?
  | 0, i, j, hi, hj => absurd hi (by omega)
  | n + 1, i, j, hi, hj => by
    rw [flatN_succ]
    have hl := flatN_len hf n
    by_cases e : i < n
    · have : i * sz + j < n * sz := by
        have := Nat.mul_le_mul_right sz (show i + 1 ≤ n by omega)
        rw [Nat.add_mul, Nat.one_mul] at this
        omega
      rw [List.getElem?_append_left (by omega), flatN_at hf e hj]
    · obtain rfl : i = n := by omega
      rw [List.getElem?_append_right (by omega), hl, show i * sz + j - i * sz = j by omega]
theorem flatN_congr {n : Nat} {f g : Nat → List Value} (h : ∀ i, i < n → f i = g i) : flatN n f = flatN n g := by
  unfold flatN
  rw [List.flatMap_def, List.flatMap_def, List.map_congr_left (fun a ha => h a (List.mem_range.1 ha))]
theorem flatN_set {sz : Nat} {f g : Nat → List Value} (hf : ∀ i, (f i).length = sz) {i j : Nat} (v : Value) (hg : ∀ a, g a = if a = i then (f a).set j v else f a) : ∀ {n}, i < n → j < sz → (flatN n f).set (i * sz + j) v = flatN n g
  | 0, hi, hj => absurd hi (by omega)
  | n + 1, hi, hj => by
    rw [flatN_succ, flatN_succ]
    have hl := flatN_len hf n
    by_cases e : i < n
    · have : i * sz + j < n * sz := by
        have := Nat.mul_le_mul_right sz (show i + 1 ≤ n by omega)
        rw [Nat.add_mul, Nat.one_mul] at this
        omega
      rw [List.set_append_left _ _ (by omega), flatN_set hf v hg e hj, hg n, if_neg (by omega)]
    · obtain rfl : i = n := by omega
      rw [List.set_append_right _ _ (by omega), hl, show i * sz + j - i * sz = j by omega, hg i, if_pos rfl]
      congr 1
      exact flatN_congr fun a ha => by rw [hg a, if_neg (by omega)]
theorem flatN_rep (v : List Value) : ∀ n, flatN n (fun _ => v) = (List.replicate n v).flatten
  | 0 => by simp [flatN]
  | n + 1 => by rw [flatN_succ, flatN_rep v n, List.replicate_succ', List.flatten_append]; simp
/-! ### Fractions -/
def frC (p : Nat × Nat) : List Value := [.int .i64 (p.1 : Int), .int .i64 (p.2 : Int)]
def frs (n : Nat) (f : Nat → Nat × Nat) : List Value := flatN n fun i => frC (f i)
theorem frs_len (n : Nat) (f : Nat → Nat × Nat) : (frs n f).length = n * 2 := flatN_len (f := fun i => frC (f i)) (fun _ => rfl) n
theorem frs_congr {n : Nat} {f g : Nat → Nat × Nat} (h : ∀ i, i < n → f i = g i) : frs n f = frs n g := flatN_congr fun i hi => by rw [h i hi]
theorem frs_snoc (n : Nat) (f : Nat → Nat × Nat) : frs (n + 1) f = frs n f ++ frC (f n) := flatN_succ _ _
def upd (f : Nat → Nat × Nat) (i : Nat) (p : Nat × Nat) (a : Nat) : Nat × Nat := if a = i then p else f a
theorem frs_put {n i : Nat} (f : Nat → Nat × Nat) (h : i < n) (p : Nat × Nat) : ((frs n f).set (i * 2) (.int .i64 (p.1 : Int))).set (i * 2 + 1) (.int .i64 (p.2 : Int)) = frs n (upd f i p) := by
  have h1 := flatN_set (sz := 2) (f := fun a => frC (f a)) (g := fun a => if a = i then (frC (f a)).set 0 (.int .i64 (p.1 : Int)) else frC (f a)) (fun _ => rfl) (i := i) (j := 0) (.int .i64 (p.1 : Int)) (fun _ => rfl) h (by omega)
  have h2 := flatN_set (sz := 2) (f := fun a => if a = i then (frC (f a)).set 0 (.int .i64 (p.1 : Int)) else frC (f a)) (g := fun a => frC (upd f i p a)) (fun a => by split <;> rfl) (i := i) (j := 1) (.int .i64 (p.2 : Int)) (fun a => by
    by_cases e : a = i
    · simp [e, upd, frC]
    · simp [e, upd]) h (by omega)
  unfold frs
  rw [Nat.add_zero] at h1
  rw [h1, h2]
/-- Its cells, and one fraction written. -/
theorem frs_cell {w : World} {base g c n : Nat} {f : Nat → Nat × Nat} (h : w.ownsRow base 26 2 (.slice (some ⟨g, 0, none⟩) n c) n (frs n f)) {i : Nat} (hi : i < n) :
    w.cell? ⟨g, i * 2, none⟩ = some (.int .i64 ((f i).1 : Int)) ∧ w.cell? ⟨g, i * 2 + 1, none⟩ = some (.int .i64 ((f i).2 : Int)) ∧ w.frozen? ⟨g, i * 2, none⟩ = false ∧ w.frozen? ⟨g, i * 2 + 1, none⟩ = false := by
  refine ⟨?_, ?_, h.frozenAt _, h.frozenAt _⟩
  · rw [h.cellAt _ (by omega)]
    exact flatN_at (sz := 2) (j := 0) (fun _ => rfl) hi (by omega)
  · rw [h.cellAt _ (by omega)]
    exact flatN_at (sz := 2) (j := 1) (fun _ => rfl) hi (by omega)
theorem frs_store {w : World} {base g c n : Nat} {f : Nat → Nat × Nat} (h : w.ownsRow base 26 2 (.slice (some ⟨g, 0, none⟩) n c) n (frs n f)) {i : Nat} (hi : i < n) (p : Nat × Nat) :
    ((w.setCell ⟨g, i * 2, none⟩ (.int .i64 (p.1 : Int))).setCell ⟨g, i * 2 + 1, none⟩ (.int .i64 (p.2 : Int))).ownsRow base 26 2 (.slice (some ⟨g, 0, none⟩) n c) n (frs n (upd f i p)) ∧
    w.grownBy ((w.setCell ⟨g, i * 2, none⟩ (.int .i64 (p.1 : Int))).setCell ⟨g, i * 2 + 1, none⟩ (.int .i64 (p.2 : Int))) (some g) := by
  obtain ⟨o1, g1⟩ := h.stored (i * 2) (.int .i64 (p.1 : Int))
  obtain ⟨o2, g2⟩ := o1.stored (i * 2 + 1) (.int .i64 (p.2 : Int))
  rw [frs_put f hi p] at o2
  exact ⟨o2, grown_then g1 g2⟩
/-! ### Stops -/
def stC (p : Nat × Nat) (v : Value) : List Value := [.int .i64 (p.1 : Int), .int .i64 (p.2 : Int), v]
def sts (n : Nat) (f : Nat → Nat × Nat) (vs : Nat → Value) : List Value := flatN n fun i => stC (f i) (vs i)
theorem sts_congr {n : Nat} {f g : Nat → Nat × Nat} {vs us : Nat → Value} (h : ∀ i, i < n → f i = g i) (h' : ∀ i, i < n → vs i = us i) : sts n f vs = sts n g us := flatN_congr fun i hi => by rw [h i hi, h' i hi]
def updV (vs : Nat → Value) (i : Nat) (v : Value) (a : Nat) : Value := if a = i then v else vs a
theorem sts_put {n i : Nat} (f : Nat → Nat × Nat) (vs : Nat → Value) (h : i < n) (p : Nat × Nat) : ((sts n f vs).set (i * 3) (.int .i64 (p.1 : Int))).set (i * 3 + 1) (.int .i64 (p.2 : Int)) = sts n (upd f i p) vs := by
  have h1 := flatN_set (sz := 3) (f := fun a => stC (f a) (vs a)) (g := fun a => if a = i then (stC (f a) (vs a)).set 0 (.int .i64 (p.1 : Int)) else stC (f a) (vs a)) (fun _ => rfl) (i := i) (j := 0) (.int .i64 (p.1 : Int)) (fun _ => rfl) h (by omega)
  have h2 := flatN_set (sz := 3) (f := fun a => if a = i then (stC (f a) (vs a)).set 0 (.int .i64 (p.1 : Int)) else stC (f a) (vs a)) (g := fun a => stC (upd f i p a) (vs a)) (fun a => by split <;> rfl) (i := i) (j := 1) (.int .i64 (p.2 : Int)) (fun a => by
    by_cases e : a = i
    · simp [e, upd, stC]
    · simp [e, upd]) h (by omega)
  unfold sts
  rw [Nat.add_zero] at h1
  rw [h1, h2]
theorem sts_putV {n i : Nat} (f : Nat → Nat × Nat) (vs : Nat → Value) (h : i < n) (v : Value) : (sts n f vs).set (i * 3 + 2) v = sts n f (updV vs i v) := by
  unfold sts
  exact flatN_set (sz := 3) (f := fun a => stC (f a) (vs a)) (g := fun a => stC (f a) (updV vs i v a)) (fun _ => rfl) (i := i) (j := 2) v (fun a => by
    by_cases e : a = i
    · simp [e, updV, stC]
    · simp [e, updV]) h (by omega)
theorem sts_cell {w : World} {base g c n : Nat} {f : Nat → Nat × Nat} {vs : Nat → Value} (h : w.ownsRow base 73 3 (.slice (some ⟨g, 0, none⟩) n c) n (sts n f vs)) {i : Nat} (hi : i < n) :
    w.cell? ⟨g, i * 3, none⟩ = some (.int .i64 ((f i).1 : Int)) ∧ w.cell? ⟨g, i * 3 + 1, none⟩ = some (.int .i64 ((f i).2 : Int)) ∧ w.cell? ⟨g, i * 3 + 2, none⟩ = some (vs i) ∧ (∀ j, w.frozen? ⟨g, j, none⟩ = false) := by
  refine ⟨?_, ?_, ?_, fun j => h.frozenAt j⟩
  · rw [h.cellAt _ (by omega)]
    exact flatN_at (sz := 3) (j := 0) (fun _ => rfl) hi (by omega)
  · rw [h.cellAt _ (by omega)]
    exact flatN_at (sz := 3) (j := 1) (fun _ => rfl) hi (by omega)
  · rw [h.cellAt _ (by omega)]
    exact flatN_at (sz := 3) (j := 2) (fun _ => rfl) hi (by omega)
/-- Stops in memory: the row of them, and a row of fractions each. -/
structure StopsAt (w : World) (base g c n : Nat) (vs : Nat → Value) (ls : Nat → Nat) (M : Nat → Nat → Nat × Nat) : Prop where
  row : w.ownsRow base 73 3 (.slice (some ⟨g, 0, none⟩) n c) n (sts n (fun i => M i 0) vs)
  own : ∀ i, i < n → w.ownsRow base 26 2 (vs i) (ls i) (frs (ls i) fun t => M i (t + 1))
  apart : ∀ i j, i < n → j < n → i ≠ j → (vs i).ownBlock = none ∨ (vs i).ownBlock ≠ (vs j).ownBlock
section
variable {w w' : World} {base g c n : Nat} {vs : Nat → Value} {ls : Nat → Nat} {M : Nat → Nat → Nat × Nat}
theorem StopsAt.congr (h : StopsAt w base g c n vs ls M) {M' : Nat → Nat → Nat × Nat} (he : ∀ i j, i < n → j ≤ ls i → M i j = M' i j) : StopsAt w base g c n vs ls M' :=
  ⟨by rw [← sts_congr (f := fun i => M i 0) (fun i hi => he i 0 hi (Nat.zero_le _)) (fun _ _ => rfl)]; exact h.row, fun i hi => by
    rw [← frs_congr (f := fun t => M i (t + 1)) (fun t ht => he i (t + 1) hi ht)]; exact h.own i hi, h.apart⟩
theorem StopsAt.below (h : StopsAt w base g c n vs ls M) (hb : Below w.heap.size w w') : StopsAt w' base g c n vs ls M := ⟨own_below h.row hb, fun i hi => own_below (h.own i hi) hb, h.apart⟩
theorem StopsAt.drew (h : StopsAt w base g c n vs ls M) : StopsAt w.drew base g c n vs ls M := ⟨h.row.drew, fun i hi => (h.own i hi).drew, h.apart⟩
theorem StopsAt.lt (h : StopsAt w base g c n vs ls M) : base ≤ g ∧ g < w.heap.size := h.row.lt _ rfl
/-- Stops and rows of fractions are of two types. -/
theorem own_ty2 {w : World} {base base' e e' s s' n n' : Nat} {v u : Value} {xs ys : List Value} (h : w.ownsRow base e s v n xs) (h' : w.ownsRow base' e' s' u n' ys) (hne : e ≠ e') {g : Nat} (hu : u.ownBlock = some g) : v.ownBlock ≠ some g := by
  rcases h'.2 with ⟨rfl, _⟩ | ⟨g', cap, cur, rfl, hb, hg, _⟩
  · cases hu
  · injection hu with hu
    subst hu
    exact own_ne h (show Box w g' e' cur from hg) hne
theorem own_tyk2 {w w' : World} {base base' e e' s s' n n' : Nat} {v u : Value} {xs ys : List Value} (h : w.ownsRow base e s v n xs) (h' : w.ownsRow base' e' s' u n' ys) (hne : e ≠ e') (hg : w.grownBy w' u.ownBlock) : w'.ownsRow base e s v n xs := by
  cases hu : u.ownBlock with
  | none =>
    rw [hu] at hg
    exact h.kept hg (Classical.em _)
  | some g =>
    rw [hu] at hg
    exact h.kept hg (.inr (own_ty2 h h' hne hu))
theorem StopsAt.boxed (h : StopsAt w base g c n vs ls M) {b : Nat} (hb : b < base) (hg : w.grownBy w' (some b)) : StopsAt w' base g c n vs ls M :=
  ⟨h.row.kept hg (.inr fun e => by have := (h.row.lt b e).1; omega), fun i hi => (h.own i hi).kept hg (.inr fun e => by have := ((h.own i hi).lt b e).1; omega), h.apart⟩
/-- The moves of one stop written. -/
theorem StopsAt.put (h : StopsAt w base g c n vs ls M) {i : Nat} (hi : i < n) (p : Nat × Nat) :
    StopsAt ((w.setCell ⟨g, i * 3, none⟩ (.int .i64 (p.1 : Int))).setCell ⟨g, i * 3 + 1, none⟩ (.int .i64 (p.2 : Int))) base g c n vs ls (fun a b => if a = i ∧ b = 0 then p else M a b) ∧
    w.grownBy ((w.setCell ⟨g, i * 3, none⟩ (.int .i64 (p.1 : Int))).setCell ⟨g, i * 3 + 1, none⟩ (.int .i64 (p.2 : Int))) (some g) := by
  obtain ⟨o1, g1⟩ := h.row.stored (i * 3) (.int .i64 (p.1 : Int))
  obtain ⟨o2, g2⟩ := o1.stored (i * 3 + 1) (.int .i64 (p.2 : Int))
  rw [sts_put _ vs hi p] at o2
  have hg := grown_then g1 g2
  refine ⟨⟨?_, fun a ha => ?_, h.apart⟩, hg⟩
  · rw [← sts_congr (f := upd (fun i => M i 0) i p) (us := vs) (g := fun a => if a = i ∧ 0 = 0 then p else M a 0) (fun a _ => by simp [upd]) (fun _ _ => rfl)]
    exact o2
  · rw [← frs_congr (f := fun t => M a (t + 1)) (fun t _ => by simp)]
    exact own_tyk2 (h.own a ha) h.row (by decide) hg
/-- One fraction of one stop written. -/
theorem StopsAt.putA (h : StopsAt w base g c n vs ls M) {i t q d : Nat} (hi : i < n) (ht : t < ls i) (hv : vs i = .slice (some ⟨q, 0, none⟩) (ls i) d) (p : Nat × Nat) :
    StopsAt ((w.setCell ⟨q, t * 2, none⟩ (.int .i64 (p.1 : Int))).setCell ⟨q, t * 2 + 1, none⟩ (.int .i64 (p.2 : Int))) base g c n vs ls (fun a b => if a = i ∧ b = t + 1 then p else M a b) ∧
    w.grownBy ((w.setCell ⟨q, t * 2, none⟩ (.int .i64 (p.1 : Int))).setCell ⟨q, t * 2 + 1, none⟩ (.int .i64 (p.2 : Int))) (some q) := by
  have ho := h.own i hi
  rw [hv] at ho
  obtain ⟨o, hg⟩ := frs_store ho ht p
  have hgv : w.grownBy ((w.setCell ⟨q, t * 2, none⟩ (.int .i64 (p.1 : Int))).setCell ⟨q, t * 2 + 1, none⟩ (.int .i64 (p.2 : Int))) (vs i).ownBlock := by rw [hv]; exact hg
  refine ⟨⟨?_, fun a ha => ?_, h.apart⟩, hg⟩
  · rw [← sts_congr (f := fun a => M a 0) (us := vs) (g := fun a => if a = i ∧ 0 = t + 1 then p else M a 0) (fun a _ => by simp) (fun _ _ => rfl)]
    exact own_tyk2 h.row (h.own i hi) (by decide) hgv
  · by_cases e : a = i
    · subst e
      rw [← frs_congr (f := upd (fun t => M a (t + 1)) t p) (fun s _ => by simp [upd]), hv]
      exact o
    · rw [← frs_congr (f := fun t => M a (t + 1)) (fun s _ => by simp [e])]
      exact (h.own a ha).kept hgv (h.apart a i ha hi e)
/-- The slice of one stop. -/
theorem StopsAt.slice (h : StopsAt w base g c n vs ls M) {i : Nat} (hi : i < n) (hl : 0 < ls i) : ∃ q d, vs i = .slice (some ⟨q, 0, none⟩) (ls i) d ∧ base ≤ q ∧ q < w.heap.size := by
  obtain ⟨q, d, hv, _, _, _, hb, hs⟩ := own_one (h.own i hi) hl
  exact ⟨q, d, hv, hb, hs⟩
end
end Go.Proofs.Ytoapmmmmdfmaeac

/-
  The leaving out of a stop, purely: what stands where, round by round.
-/
namespace Go.Proofs.Ytoapmmmmdfmaeac
open Go.RowKit
set_option linter.unusedVariables false

theorem isF_of {p : Nat × Nat} (h : 1 ≤ p.2) : isF p = true := by unfold isF; rw [Nat.ble_eq]; exact h
theorem sumC_ok {r : List (Nat × Nat)} : ∀ {n}, isF (sumC' r n) = true → ∀ k, k ≤ n → isF (sumC' r k) = true
  | 0, h, k, hk => by rw [show k = 0 by omega]; exact h
  | n + 1, h, k, hk => by
    by_cases e : k = n + 1
    · rw [e]; exact h
    · exact sumC_ok (isF_of (plusF_is (plusC_ok (show isF (plusC (sumC' r n) (rAt r (n + 1))) = true from h)).1).1) k (by omega)
/-- What the leaving out asks of one cell. -/
structure RoundOk (n out c : Nat) (M : List (List (Nat × Nat))) : Prop where
  sum : isF (sumC' (mRow M out) n) = true
  part : isF (partOf out (mRow M c) (sumC' (mRow M out) n)) = true
  headT : isF (timesC (partOf out (mRow M c) (sumC' (mRow M out) n)) (hAt M out 0)) = true
  head : isF (plusC (hAt M c 0) (timesC (partOf out (mRow M c) (sumC' (mRow M out) n)) (hAt M out 0))) = true
  arrT : ∀ t, t < n → t ≠ c → isF (timesC (partOf out (mRow M c) (sumC' (mRow M out) n)) (hAt M out (t + 1))) = true
  arr : ∀ t, t < n → t ≠ c → isF (plusC (hAt M c (t + 1)) (timesC (partOf out (mRow M c) (sumC' (mRow M out) n)) (hAt M out (t + 1)))) = true
theorem round_ok {n out c : Nat} {M : List (List (Nat × Nat))} (h : LeaveOk n out M) (hc : c < n) : RoundOk n out c M := by
  have h := h.mid c hc
  have h := List.all_eq_true.1 h
  have h0 : isF (plusC (hAt M c 0) (timesC (partOf out (mRow M c) (sumC' (mRow M out) n)) (hAt M out 0))) = true := h _ (List.mem_cons.2 (.inl rfl))
  have h1 : isF (timesC (partOf out (mRow M c) (sumC' (mRow M out) n)) (hAt M out 0)) = true := isF_of (plusF_is (plusC_ok h0).1).2.1
  have h2 : isF (partOf out (mRow M c) (sumC' (mRow M out) n)) = true := isF_of (timesF_is (timesC_ok h1).1).1
  have h3 : isF (sumC' (mRow M out) n) = true := isF_of (quoF_is (quoC_ok h2).1).2.2.1
  have h4 : ∀ t, t < n → t ≠ c → isF (plusC (hAt M c (t + 1)) (timesC (partOf out (mRow M c) (sumC' (mRow M out) n)) (hAt M out (t + 1)))) = true := fun t ht hne => by
    have := h (midAt c (mRow M out) (partOf out (mRow M c) (sumC' (mRow M out) n)) (mRow M c) t) (List.mem_cons.2 (.inr (List.mem_map.2 ⟨t, List.mem_range.2 ht, rfl⟩)))
    unfold midAt at this
    rw [if_neg hne] at this
    exact this
  exact ⟨h3, h2, h1, h0, fun t ht hne => isF_of (plusF_is (plusC_ok (h4 t ht hne)).1).2.1, h4⟩
/-- What stands where ahead of cell c. -/
def outSt (n out : Nat) (M : List (List (Nat × Nat))) (c a b : Nat) : Nat × Nat := if a < c then hAt (leaveM n out M) a b else hAt M a b
/-- And ahead of its fraction t. -/
def inSt (n out : Nat) (M : List (List (Nat × Nat))) (c t a b : Nat) : Nat × Nat :=
  if a = c then (if b = 0 then headOf (mRow M out) (partOf out (mRow M c) (sumC' (mRow M out) n)) (mRow M c) else if b ≤ t then midAt c (mRow M out) (partOf out (mRow M c) (sumC' (mRow M out) n)) (mRow M c) (b - 1) else hAt M c b) else outSt n out M c a b
variable {n out : Nat} {M : List (List (Nat × Nat))}
theorem out_zero : outSt n out M 0 = hAt M := by
  funext a b
  simp [outSt]
theorem out_head (c : Nat) : (fun a b => if a = c ∧ b = 0 then plusC (hAt M c 0) (timesC (partOf out (mRow M c) (sumC' (mRow M out) n)) (hAt M out 0)) else outSt n out M c a b) = inSt n out M c 0 := by
  funext a b
  unfold inSt
  by_cases e : a = c
  · subst e
    by_cases e2 : b = 0
    · subst e2; simp; rfl
    · simp [e2, outSt]
  · simp [e]
theorem in_more (c t : Nat) (ht : t ≠ c) : (fun a b => if a = c ∧ b = t + 1 then plusC (hAt M c (t + 1)) (timesC (partOf out (mRow M c) (sumC' (mRow M out) n)) (hAt M out (t + 1))) else inSt n out M c t a b) = inSt n out M c (t + 1) := by
  funext a b
  unfold inSt
  by_cases e : a = c
  · subst e
    by_cases e2 : b = t + 1
    · subst e2
      simp [midAt, ht]
      rfl
    · by_cases e3 : b ≤ t
      · simp [e2, e3, show b ≤ t + 1 by omega]
      · simp [e2, e3, show ¬ b ≤ t + 1 by omega]
  · simp [e]
theorem in_skip (c : Nat) : inSt n out M c c = inSt n out M c (c + 1) := by
  funext a b
  unfold inSt
  by_cases e : a = c
  · subst e
    by_cases e2 : b = a + 1
    · subst e2
      simp [midAt]
      rfl
    · by_cases e3 : b ≤ a
      · simp [e3, show b ≤ a + 1 by omega]
      · simp [e3, show ¬ b ≤ a + 1 by omega]
  · simp [e]
theorem left_at {c b : Nat} (hc : c < n) : hAt (leaveM n out M) c b = rAt (leftRow n out M c) b := by
  unfold hAt leaveM
  rw [List.getElem?_map, List.getElem?_range hc]
  rfl
theorem in_end {c : Nat} (hc : c < n) (ho : out < n) {a b : Nat} (ha : a < n) (hb : b ≤ n) : (if a = c ∧ b = out + 1 then (0, 1) else inSt n out M c n a b) = outSt n out M (c + 1) a b := by
  unfold inSt outSt
  by_cases e : a = c
  · subst e
    rw [if_pos (show a < a + 1 by omega), left_at hc]
    unfold leftRow newRow rAt midRow
    by_cases e2 : b = out + 1
    · subst e2
      simp [ho]
    · rw [if_neg (fun h => e2 h.2), if_pos rfl, List.getElem?_set_ne (by omega)]
      by_cases e3 : b = 0
      · subst e3; simp
      · obtain ⟨t, rfl⟩ : ∃ t, b = t + 1 := ⟨b - 1, by omega⟩
        have ht : t < n := by omega
        simp [hb, ht]
  · rw [if_neg (fun h => e h.1), if_neg e]
    by_cases e2 : a < c
    · rw [if_pos e2, if_pos (by omega)]
    · rw [if_neg e2, if_neg (by omega)]
/-- The row that is left out stays as it was. -/
theorem out_thr (h : LeaveOk n out M) (ho : out < n) (c b : Nat) : outSt n out M c out b = hAt M out b := by
  unfold outSt
  split
  · rw [left_at ho, h.stay]; rfl
  · rfl
theorem in_thr (h : LeaveOk n out M) (ho : out < n) {c t : Nat} : inSt n out M c t out (t + 1) = hAt M out (t + 1) := by
  unfold inSt
  by_cases e : out = c
  · rw [if_pos e, if_neg (by omega), if_neg (by omega), e]
  · rw [if_neg e]; exact out_thr h ho c _
theorem in_here (c t : Nat) : inSt n out M c t c (t + 1) = hAt M c (t + 1) := by
  unfold inSt
  rw [if_pos rfl, if_neg (by omega), if_neg (by omega)]
theorem out_here (c b : Nat) : outSt n out M c c b = hAt M c b := by simp [outSt]
theorem out_end {a : Nat} (ha : a < n) (b : Nat) : outSt n out M n a b = hAt (leaveM n out M) a b := by simp [outSt, ha]
end Go.Proofs.Ytoapmmmmdfmaeac
