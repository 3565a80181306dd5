
/-
  The program's pegs: restByThree, ClassOf.
-/
import Derived.Test.YtgbbmnnpphkkbaaPPegC
import Derived.Test.YtgbbmnnpphkkbaaPPegL
import Derived.Test.YtgbbmnnpphkkbaaPegB
namespace Go.Proofs.Ytgbbmnnpphkkbaa
open Go.RowKit
set_option linter.unusedVariables false

theorem rest3 : ∀ n : Fin 41, Int.tmod (Int.tmod ((n.val : Int) - 20) 3 + 3) 3 = ((n.val : Int) - 20) % 3 ∧ -3 < Int.tmod ((n.val : Int) - 20) 3 ∧ Int.tmod ((n.val : Int) - 20) 3 < 3 := by decide +kernel
theorem rest_c (n : Int) (r : Nat) (h1 : -20 ≤ n) (h2 : n ≤ 20) (hr : n % 3 = (r : Int)) (W : World) : Calls Try.prog 32 #[.int .i64 n] W fun e w' => e = .returned (.int .i64 (r : Int)) ∧ W = w' := by
  obtain ⟨k, rfl⟩ : ∃ k : Nat, n = (k : Int) - 20 := ⟨(n + 20).toNat, by omega⟩
  obtain ⟨h3, h4, h5⟩ := rest3 ⟨k, by omega⟩
  simp only at h3 h4 h5
  rw [hr] at h3
  generalize (k : Int) - 20 = n at *
  have hrb : r < 3 := by omega
  obtain ⟨m, hm⟩ : ∃ m, Int.tmod n 3 = m := ⟨_, rfl⟩
  rw [hm] at h3 h4 h5
  have e1 : IntKind.i64.wrap m = m := IntWalk.i64_in _ (by omega)
  have e2 : IntKind.i64.wrap (m + 3) = m + 3 := IntWalk.i64_in _ (by omega)
  have e3 : IntKind.i64.wrap (r : Int) = (r : Int) := IntWalk.i64_in _ (by omega)
  clear hr
  go_enter Try.func32, Try.ntmps32
  go_wp2_with fail
  go_ret
  exact ⟨rfl, rfl⟩

/-- The four numbers behind k cells. -/
def clsTo (w s k q : Nat) : Nat := (parC (clsF w q) s k).toNat
def clsK (w s k : Nat) : List Nat := [clsTo w s k 0, clsTo w s k 1, clsTo w s k 2, clsTo w s k 3]
theorem clsK_all (w n s : Nat) : clsK w s n = clsL w n s := rfl
theorem clsTo_le (w s k q : Nat) : clsTo w s k q ≤ 1 := Bool.toNat_le _
theorem clsTo_yes {w s k q : Nat} (h : clsF w q k = true) : clsTo w s (k + 1) q = clsTo w s k q ^^^ bitN s k := by
  unfold clsTo
  rw [parC, h, Bool.true_and, bit_is]
  rcases bitN_two s k with e | e <;> rw [e] <;> cases parC (clsF w q) s k <;> rfl
theorem clsTo_no {w s k q : Nat} (h : clsF w q k = false) : clsTo w s (k + 1) q = clsTo w s k q := by
  unfold clsTo
  rw [parC, h, Bool.false_and, Bool.bne_false]
theorem clsF_dn (w k : Nat) : clsF w 0 k = decide (dnF w k ≤ 1) ∧ clsF w 1 k = decide (1 ≤ dnF w k) := by
  have : dnF w k < 3 := Nat.mod_lt _ (by omega)
  have h0 : clsF w 0 k = (dnF w k == 0 || dnF w k == 1) := rfl
  have h1 : clsF w 1 k = (dnF w k == 1 || dnF w k == 2) := rfl
  rw [h0, h1]
  generalize dnF w k = d at *
  have : d = 0 ∨ d = 1 ∨ d = 2 := by omega
  rcases this with rfl | rfl | rfl <;> decide
theorem clsF_up (w k : Nat) : clsF w 2 k = decide (upF w k ≤ 1) ∧ clsF w 3 k = decide (1 ≤ upF w k) := by
  have : upF w k < 3 := Nat.mod_lt _ (by omega)
  have h0 : clsF w 2 k = (upF w k == 0 || upF w k == 1) := rfl
  have h1 : clsF w 3 k = (upF w k == 1 || upF w k == 2) := rfl
  rw [h0, h1]
  generalize upF w k = d at *
  have : d = 0 ∨ d = 1 ∨ d = 2 := by omega
  rcases this with rfl | rfl | rfl <;> decide
theorem bit_and (s k : Nat) (hs : s < 4096) : bits .and .i64 ((s : Int) / 2 ^ k) 1 = ((bitN s k : Nat) : Int) := by
  have e : (s : Int) / 2 ^ k = ((s / 2 ^ k : Nat) : Int) := by simp
  have h1 : s / 2 ^ k ≤ s := Nat.div_le_self _ _
  have := and64 (s / 2 ^ k) 1 (by omega) (by omega)
  rw [e]
  refine this.trans ?_
  rw [Nat.and_one_is_mod]
  rfl
/-- Two entries of the class, by one rest. -/
theorem two_step {w s k : Nat} {q d : Nat} (h0 : clsF w q k = decide (d ≤ 1)) (h1 : clsF w (q + 1) k = decide (1 ≤ d)) :
    clsTo w s (k + 1) q = (if d ≤ 1 then clsTo w s k q ^^^ bitN s k else clsTo w s k q) ∧ clsTo w s (k + 1) (q + 1) = (if 1 ≤ d then clsTo w s k (q + 1) ^^^ bitN s k else clsTo w s k (q + 1)) := by
  constructor
  · by_cases h : d ≤ 1
    · rw [if_pos h]; exact clsTo_yes (by rw [h0]; simpa using h)
    · rw [if_neg h]; exact clsTo_no (by rw [h0]; simpa using h)
  · by_cases h : 1 ≤ d
    · rw [if_pos h]; exact clsTo_yes (by rw [h1]; simpa using h)
    · rw [if_neg h]; exact clsTo_no (by rw [h1]; simpa using h)
/-! ### ClassOf -/
def mid4 (a0 a1 a2 a3 b0 b1 b2 b3 : Nat) : Nat → List Nat
  | 0 => [a0, a1, a2, a3]
  | 1 => [b0, b1, a2, a3]
  | _ => [b0, b1, b2, b3]
set_option maxHeartbeats 4000000 in
set_option maxRecDepth 100000 in
theorem implClassOf_c (bc br s : Int) (W : World) : Calls Try.prog 13 #[.int .i64 bc, .int .i64 br, .int .i64 s] W (Owns 3 1 (clsI bc br s).length (ints (clsI bc br s)) W) := by
  rcases lit1_c bc br s W with ⟨w, h, x, rfl, rfl, rfl, hw, hh, h12, hx, hC⟩ | ⟨hN, hC⟩
  · have HC := hide hC
    have hc : clsI (w : Int) (h : Int) (x : Int) = natI (clsL w (w * h) x) := if_pos (pegS_of hw hh h12 hx)
    rw [hc]
    have HALL := hide (clsK_all w (w * h) x)
    rw [← HALL.out]
    have hx4 := peg_lt h12 hx
    have HZ := hide (fun w6 => by
      have := size_c (w : Int) (h : Int) w6 (by omega) (by omega) (by omega) (by omega)
      rw [← Int.natCast_mul] at this
      exact this)
    obtain ⟨i0, hi0, hz0, hz1, hz2⟩ := info_ofP (P := Try.prog) (e := 3) (z := .int .i64 0) (size := 1) (bytes := 8) (by kernel_rfl)
    have w0 : w ≠ 0 := by omega
    obtain ⟨w1, w5⟩ := hw
    show Calls Try.prog 13 _ W (Owns 3 1 4 _ W)
    generalize w * h = n at *
    clear hC hx hh hc HALL
    go_enter Try.func13, Try.ntmps13
    go_wp2_with fail
    refine HC.out.mono ?_
    rintro e wa ⟨rfl, b1⟩
    have hb1 : Below W.heap.size W wa := below_then ((Below.refl _ _).alloc (Nat.le_refl _) _) (by simp) b1
    have hb2 := hb1.alloc hb1.size (.cells #[.int .i64 (w : Int), .int .i64 (h : Int)] 40)
    have bx2 := Box.new wa 40 #[.int .i64 (w : Int), .int .i64 (h : Int)]
    clear b1 HC
    generalize hgb : wa.heap.size = gb at *
    go_wp2_with (first
      | (at_make; refine wpList_make_full _ rfl (.const (.int .i64 4)) (.const (.int .i64 4)) 27 rfl W.heap.size 3 i0 (.int .i64 0) 1 Try.underlying27 hi0 hz0 hz1 .i64 .i64 4 4 4 rfl rfl rfl rfl (by rw [hz2]; omega) (by simp [maxLen]) hb2.size ?_
         intro w4 own4 hg4
         rw [show (Value.int .i64 0).cells = #[Value.int .i64 0] from rfl, Nat.mul_one, toList_madeCells_one, World.size_alloc, hgb] at own4
         have own4 : w4.ownsRow W.heap.size 3 1 (.slice (some ⟨gb + 1, 0, none⟩) 4 4) 4 (ints (natI (clsK w x 0))) := own4
         have hb4 := hb2.grown hg4 hb2.size (fun k e => by cases e)
         have bx4 := bx2.grown hg4 (by simp)
         have q0 := bx4.cell 0
         have q1 := bx4.cell 1
         clear hg4 bx2 hb2)
      | fail)
    refine (HZ.out _).mono ?_
    rintro e w6 ⟨rfl, b6⟩
    have own6 := own_below own4 b6
    have bx6 := bx4.then b6
    have hb6 := below_then hb4 hb4.size b6
    have zgb : W.heap.size ≤ gb := by rw [← hgb]; exact hb1.size
    clear own4 bx4 hb4 b6 hb1 q0 q1 hgb hi0 hz0 hz1 hz2
    go_wp2_with fail
    go_loopw [29] (fun i wr => ∃ k : Nat, k ≤ n ∧ i = .int .i64 (k : Int) ∧ wr.ownsRow W.heap.size 3 1 (.slice (some ⟨gb + 1, 0, none⟩) 4 4) 4 (ints (natI (clsK w x k))) ∧ Box wr gb 40 #[.int .i64 (w : Int), .int .i64 (h : Int)] ∧ Below W.heap.size W wr) (fun i _ => n - (intOf i).toNat)
    case atStart => exact ⟨0, Nat.zero_le _, rfl, own6, bx6, hb6⟩
    case round =>
      clear own6 bx6 hb6
      obtain ⟨k, hk, rfl, own, bx, hb⟩ := hrel
      obtain ⟨wo, rfl⟩ : ∃ wo : World, wo = wr := ⟨_, rfl⟩
      have zgw : gb + 1 < wo.heap.size := (own.lt _ rfl).2
      by_cases hlt : k < n
      · have k00 := bx.cell 0
        have k01 := bx.cell 1
        have hbt := bit_and x k hx4
        obtain ⟨hd0, hd1⟩ := clsF_dn w k
        obtain ⟨hu2, hu3⟩ := clsF_up w k
        obtain ⟨s0, s1⟩ := two_step (s := x) hd0 hd1
        obtain ⟨s2, s3⟩ := two_step (s := x) (q := 2) hu2 hu3
        have l0 := clsTo_le w x k 0
        have l1 := clsTo_le w x k 1
        have l2 := clsTo_le w x k 2
        have l3 := clsTo_le w x k 3
        have lb : bitN x k ≤ 1 := by rcases bitN_two x k with e | e <;> omega
        have hK1 := hide (show clsK w x (k + 1) = [clsTo w x (k + 1) 0, clsTo w x (k + 1) 1, clsTo w x (k + 1) 2, clsTo w x (k + 1) 3] from rfl)
        have hK0 : clsK w x k = [clsTo w x k 0, clsTo w x k 1, clsTo w x k 2, clsTo w x k 3] := rfl
        rw [hK0] at own
        clear hK0 hd0 hd1 hu2 hu3
        have hdF : dnF w k = (k / w + k % w) % 3 := rfl
        have huF : upF w k = (k / w + 15 - k % w) % 3 := rfl
        have hd3 : dnF w k < 3 := Nat.mod_lt _ (by omega)
        have hu3 : upF w k < 3 := Nat.mod_lt _ (by omega)
        have t1 : Int.tdiv (k : Int) (w : Int) = ((k / w : Nat) : Int) := rfl
        have t2 : Int.tmod (k : Int) (w : Int) = ((k % w : Nat) : Int) := rfl
        have hkd := Nat.div_le_self k w
        have hkm := Nat.mod_lt k (show 0 < w by omega)
        generalize k / w = r at *
        generalize k % w = c at *
        have HR1 := hide (fun w6 => rest_c (((r + c : Nat) : Int)) (dnF w k) (by omega) (by omega) (by rw [hdF]; omega) w6)
        have HR2 := hide (fun w6 => rest_c ((r : Int) - (c : Int)) (upF w k) (by omega) (by omega) (by rw [huF]; omega) w6)
        clear hdF huF
        have e1 : IntKind.i64.wrap (r : Int) = (r : Int) := IntWalk.i64_in _ (by omega)
        have e2 : IntKind.i64.wrap (c : Int) = (c : Int) := IntWalk.i64_in _ (by omega)
        obtain ⟨p, hp⟩ : ∃ p, r + c = p := ⟨_, rfl⟩
        rw [hp] at HR1
        have e3 : IntKind.i64.wrap ((r : Int) + (c : Int)) = (p : Int) := (IntWalk.i64_in _ (by omega)).trans (by omega)
        obtain ⟨m, hm⟩ : ∃ m : Int, (r : Int) - (c : Int) = m := ⟨_, rfl⟩
        rw [hm] at HR2
        have e4 : IntKind.i64.wrap ((r : Int) - (c : Int)) = m := (IntWalk.i64_in _ (by omega)).trans hm
        clear hp hm
        generalize clsTo w x k 0 = a0 at *
        generalize clsTo w x k 1 = a1 at *
        generalize clsTo w x k 2 = a2 at *
        generalize clsTo w x k 3 = a3 at *
        generalize clsTo w x (k + 1) 0 = b0 at *
        generalize clsTo w x (k + 1) 1 = b1 at *
        generalize clsTo w x (k + 1) 2 = b2 at *
        generalize clsTo w x (k + 1) 3 = b3 at *
        generalize bitN x k = bt at *
        generalize dnF w k = dn at *
        generalize upF w k = up at *
        have S0 := hide s0
        have S1 := hide s1
        have S2 := hide s2
        have S3 := hide s3
        clear s0 s1 s2 s3
        have kk0 : (0 : Int) ≤ (k : Int) := by omega
        have kk1 : (k : Int) < 64 := by omega
        have OWN := hide (show wo.ownsRow W.heap.size 3 1 (.slice (some ⟨gb + 1, 0, none⟩) 4 4) 4 (ints (natI [a0, a1, a2, a3])) from own)
        clear own
        go_wp2_with fail
        go_quiet (fail)
        have own1 : (wo.drewN nq).ownsRow W.heap.size 3 1 (.slice (some ⟨gb + 1, 0, none⟩) 4 4) 4 (ints (natI [a0, a1, a2, a3])) := OWN.out
        have bx1 : Box (wo.drewN nq) gb 40 #[.int .i64 (w : Int), .int .i64 (h : Int)] := bx
        have hb1 := below_drewN hb nq
        have zg1 : gb + 1 < (wo.drewN nq).heap.size := zgw
        clear OWN bx hb k00 k01 zgw hbt t1 t2 e1 e2
        generalize wo.drewN nq = wq at *
        have own2 := own1.alloc (.cells #[.int .i64 (dn : Int), .int .i64 (up : Int)] 3)
        have bx2 := bx1.alloc (.cells #[.int .i64 (dn : Int), .int .i64 (up : Int)] 3)
        have hb2 := hb1.alloc hb1.size (.cells #[.int .i64 (dn : Int), .int .i64 (up : Int)] 3)
        have br2 := Box.new wq 3 #[.int .i64 (dn : Int), .int .i64 (up : Int)]
        clear own1 bx1 hb1
        go_wp2_with fail
        refine (HR1.out _).mono ?_
        rintro e w7 ⟨rfl, rfl⟩
        go_wp2_with fail
        refine (HR2.out _).mono ?_
        rintro e w7 ⟨rfl, rfl⟩
        go_wp2_with fail
        generalize hgr : wq.heap.size = gr at *
        clear hgr
        generalize wq.alloc (.cells #[.int .i64 (dn : Int), .int .i64 (up : Int)] 3) = w8 at *
        go_loopw [54] (fun i wr => ∃ q : Nat, q ≤ 2 ∧ i = .int .i64 (q : Int) ∧ wr.ownsRow W.heap.size 3 1 (.slice (some ⟨gb + 1, 0, none⟩) 4 4) 4 (ints (natI (mid4 a0 a1 a2 a3 b0 b1 b2 b3 q))) ∧ Box wr gb 40 #[.int .i64 (w : Int), .int .i64 (h : Int)] ∧ Box wr gr 3 #[.int .i64 (dn : Int), .int .i64 (up : Int)] ∧ Below W.heap.size W wr) (fun i _ => 2 - (intOf i).toNat)
        case atStart => exact ⟨0, by omega, rfl, own2, bx2, br2, hb2⟩
        case round =>
          clear own2 bx2 br2 hb2
          obtain ⟨q, hq, rfl, own, bx, br, hb⟩ := hrel
          obtain ⟨wi, rfl⟩ : ∃ wi : World, wi = wr := ⟨_, rfl⟩
          have hq3 : q = 0 ∨ q = 1 ∨ q = 2 := by omega
          have r0 := br.cell 0
          have r1 := br.cell 1
          rcases hq3 with rfl | rfl | rfl
          · have hv : dn = 0 ∨ dn = 1 ∨ dn = 2 := by omega
            have own : wi.ownsRow W.heap.size 3 1 (.slice (some ⟨gb + 1, 0, none⟩) 4 4) 4 (ints (natI [a0, a1, a2, a3])) := own
            rcases hv with rfl | rfl | rfl
            · have hB0 := S0.out
              have hB1 := S1.out
              simp only [show (0 ≤ 1) = True from by simp, show (1 ≤ 0) = False from by simp, if_true, if_false] at hB0 hB1
              have x0 : bits .xor .i64 (a0 : Int) (bt : Int) = (b0 : Int) := (xor64 a0 bt (by omega) (by omega)).trans (by rw [hB0])
              have c0 : World.cell? _ ⟨gb + 1, 0, none⟩ = some (.int .i64 (a0 : Int)) := (own_natP own (k := 0) (by omega) 0).1
              have f0 := (own_natP own (k := 0) (by omega) 0).2.1
              have o0 : World.ownsRow _ W.heap.size 3 1 (.slice (some ⟨gb + 1, 0, none⟩) 4 4) 4 (ints (natI [b0, a1, a2, a3])) := (own_natP own (k := 0) (by omega) b0).2.2.1
              have g0 := (own_natP own (k := 0) (by omega) b0).2.2.2
              have bx0 := bx.grown g0 (by intro e; injection e with e; omega)
              have br0 := br.grown g0 (by intro e; injection e with e; omega)
              have hb0 := hb.grown g0 hb.size (fun z e => by injection e with e; omega)
              have FIN := hide (And.intro o0 (And.intro bx0 (And.intro br0 hb0)))
              have HB0 := hide hB0
              have HB1 := hide hB1
              clear o0 g0 bx0 br0 hb0 own hb hB0 hB1
              go_wp2_with fail
              exact ⟨⟨1, by omega, rfl, (by have := FIN.out.1; rw [← HB1.out] at this; exact this), FIN.out.2.1, FIN.out.2.2.1, FIN.out.2.2.2⟩, by simp [intOf]⟩
            · have hB0 := S0.out
              have hB1 := S1.out
              simp only [Nat.le_refl, if_true] at hB0 hB1
              have x0 : bits .xor .i64 (a0 : Int) (bt : Int) = (b0 : Int) := (xor64 a0 bt (by omega) (by omega)).trans (by rw [hB0])
              have c0 : World.cell? _ ⟨gb + 1, 0, none⟩ = some (.int .i64 (a0 : Int)) := (own_natP own (k := 0) (by omega) 0).1
              have f0 := (own_natP own (k := 0) (by omega) 0).2.1
              have o0 : World.ownsRow _ W.heap.size 3 1 (.slice (some ⟨gb + 1, 0, none⟩) 4 4) 4 (ints (natI [b0, a1, a2, a3])) := (own_natP own (k := 0) (by omega) b0).2.2.1
              have g0 := (own_natP own (k := 0) (by omega) b0).2.2.2
              have bx0 := bx.grown g0 (by intro e; injection e with e; omega)
              have br0 := br.grown g0 (by intro e; injection e with e; omega)
              have hb0 := hb.grown g0 hb.size (fun z e => by injection e with e; omega)
              have x1 : bits .xor .i64 (a1 : Int) (bt : Int) = (b1 : Int) := (xor64 a1 bt (by omega) (by omega)).trans (by rw [hB1])
              have c1 : World.cell? _ ⟨gb + 1, 1, none⟩ = some (.int .i64 (a1 : Int)) := (own_natP o0 (k := 1) (by omega) 0).1
              have f1 := (own_natP o0 (k := 1) (by omega) 0).2.1
              have o1 : World.ownsRow _ W.heap.size 3 1 (.slice (some ⟨gb + 1, 0, none⟩) 4 4) 4 (ints (natI [b0, b1, a2, a3])) := (own_natP o0 (k := 1) (by omega) b1).2.2.1
              have g1 := (own_natP o0 (k := 1) (by omega) b1).2.2.2
              have bx1 := bx0.grown g1 (by intro e; injection e with e; omega)
              have br1 := br0.grown g1 (by intro e; injection e with e; omega)
              have hb1 := hb0.grown g1 hb0.size (fun z e => by injection e with e; omega)
              have FIN := hide (And.intro o1 (And.intro bx1 (And.intro br1 hb1)))
              have HB0 := hide hB0
              have HB1 := hide hB1
              clear o0 g0 bx0 br0 hb0 o1 g1 bx1 br1 hb1 own hb hB0 hB1
              go_wp2_with fail
              exact ⟨⟨1, by omega, rfl, FIN.out.1, FIN.out.2.1, FIN.out.2.2.1, FIN.out.2.2.2⟩, by simp [intOf]⟩
            · have hB0 := S0.out
              have hB1 := S1.out
              simp only [show (2 ≤ 1) = False from by simp, show (1 ≤ 2) = True from by simp, if_true, if_false] at hB0 hB1
              have x1 : bits .xor .i64 (a1 : Int) (bt : Int) = (b1 : Int) := (xor64 a1 bt (by omega) (by omega)).trans (by rw [hB1])
              have c1 : World.cell? _ ⟨gb + 1, 1, none⟩ = some (.int .i64 (a1 : Int)) := (own_natP own (k := 1) (by omega) 0).1
              have f1 := (own_natP own (k := 1) (by omega) 0).2.1
              have o1 : World.ownsRow _ W.heap.size 3 1 (.slice (some ⟨gb + 1, 0, none⟩) 4 4) 4 (ints (natI [a0, b1, a2, a3])) := (own_natP own (k := 1) (by omega) b1).2.2.1
              have g1 := (own_natP own (k := 1) (by omega) b1).2.2.2
              have bx1 := bx.grown g1 (by intro e; injection e with e; omega)
              have br1 := br.grown g1 (by intro e; injection e with e; omega)
              have hb1 := hb.grown g1 hb.size (fun z e => by injection e with e; omega)
              have FIN := hide (And.intro o1 (And.intro bx1 (And.intro br1 hb1)))
              have HB0 := hide hB0
              have HB1 := hide hB1
              clear o1 g1 bx1 br1 hb1 own hb hB0 hB1
              go_wp2_with fail
              exact ⟨⟨1, by omega, rfl, (by have := FIN.out.1; rw [← HB0.out] at this; exact this), FIN.out.2.1, FIN.out.2.2.1, FIN.out.2.2.2⟩, by simp [intOf]⟩
          · have hv : up = 0 ∨ up = 1 ∨ up = 2 := by omega
            have own : wi.ownsRow W.heap.size 3 1 (.slice (some ⟨gb + 1, 0, none⟩) 4 4) 4 (ints (natI [b0, b1, a2, a3])) := own
            rcases hv with rfl | rfl | rfl
            · have hB2 := S2.out
              have hB3 := S3.out
              simp only [show (0 ≤ 1) = True from by simp, show (1 ≤ 0) = False from by simp, if_true, if_false] at hB2 hB3
              have x2 : bits .xor .i64 (a2 : Int) (bt : Int) = (b2 : Int) := (xor64 a2 bt (by omega) (by omega)).trans (by rw [hB2])
              have c2 : World.cell? _ ⟨gb + 1, 2, none⟩ = some (.int .i64 (a2 : Int)) := (own_natP own (k := 2) (by omega) 0).1
              have f2 := (own_natP own (k := 2) (by omega) 0).2.1
              have o2 : World.ownsRow _ W.heap.size 3 1 (.slice (some ⟨gb + 1, 0, none⟩) 4 4) 4 (ints (natI [b0, b1, b2, a3])) := (own_natP own (k := 2) (by omega) b2).2.2.1
              have g2 := (own_natP own (k := 2) (by omega) b2).2.2.2
              have bx2 := bx.grown g2 (by intro e; injection e with e; omega)
              have br2 := br.grown g2 (by intro e; injection e with e; omega)
              have hb2 := hb.grown g2 hb.size (fun z e => by injection e with e; omega)
              have FIN := hide (And.intro o2 (And.intro bx2 (And.intro br2 hb2)))
              have HB2 := hide hB2
              have HB3 := hide hB3
              clear o2 g2 bx2 br2 hb2 own hb hB2 hB3
              go_wp2_with fail
              exact ⟨⟨2, by omega, rfl, (by have := FIN.out.1; rw [← HB3.out] at this; exact this), FIN.out.2.1, FIN.out.2.2.1, FIN.out.2.2.2⟩, by simp [intOf]⟩
            · have hB2 := S2.out
              have hB3 := S3.out
              simp only [Nat.le_refl, if_true] at hB2 hB3
              have x2 : bits .xor .i64 (a2 : Int) (bt : Int) = (b2 : Int) := (xor64 a2 bt (by omega) (by omega)).trans (by rw [hB2])
              have c2 : World.cell? _ ⟨gb + 1, 2, none⟩ = some (.int .i64 (a2 : Int)) := (own_natP own (k := 2) (by omega) 0).1
              have f2 := (own_natP own (k := 2) (by omega) 0).2.1
              have o2 : World.ownsRow _ W.heap.size 3 1 (.slice (some ⟨gb + 1, 0, none⟩) 4 4) 4 (ints (natI [b0, b1, b2, a3])) := (own_natP own (k := 2) (by omega) b2).2.2.1
              have g2 := (own_natP own (k := 2) (by omega) b2).2.2.2
              have bx2 := bx.grown g2 (by intro e; injection e with e; omega)
              have br2 := br.grown g2 (by intro e; injection e with e; omega)
              have hb2 := hb.grown g2 hb.size (fun z e => by injection e with e; omega)
              have x3 : bits .xor .i64 (a3 : Int) (bt : Int) = (b3 : Int) := (xor64 a3 bt (by omega) (by omega)).trans (by rw [hB3])
              have c3 : World.cell? _ ⟨gb + 1, 3, none⟩ = some (.int .i64 (a3 : Int)) := (own_natP o2 (k := 3) (by omega) 0).1
              have f3 := (own_natP o2 (k := 3) (by omega) 0).2.1
              have o3 : World.ownsRow _ W.heap.size 3 1 (.slice (some ⟨gb + 1, 0, none⟩) 4 4) 4 (ints (natI [b0, b1, b2, b3])) := (own_natP o2 (k := 3) (by omega) b3).2.2.1
              have g3 := (own_natP o2 (k := 3) (by omega) b3).2.2.2
              have bx3 := bx2.grown g3 (by intro e; injection e with e; omega)
              have br3 := br2.grown g3 (by intro e; injection e with e; omega)
              have hb3 := hb2.grown g3 hb2.size (fun z e => by injection e with e; omega)
              have FIN := hide (And.intro o3 (And.intro bx3 (And.intro br3 hb3)))
              have HB2 := hide hB2
              have HB3 := hide hB3
              clear o2 g2 bx2 br2 hb2 o3 g3 bx3 br3 hb3 own hb hB2 hB3
              go_wp2_with fail
              exact ⟨⟨2, by omega, rfl, FIN.out.1, FIN.out.2.1, FIN.out.2.2.1, FIN.out.2.2.2⟩, by simp [intOf]⟩
            · have hB2 := S2.out
              have hB3 := S3.out
              simp only [show (2 ≤ 1) = False from by simp, show (1 ≤ 2) = True from by simp, if_true, if_false] at hB2 hB3
              have x3 : bits .xor .i64 (a3 : Int) (bt : Int) = (b3 : Int) := (xor64 a3 bt (by omega) (by omega)).trans (by rw [hB3])
              have c3 : World.cell? _ ⟨gb + 1, 3, none⟩ = some (.int .i64 (a3 : Int)) := (own_natP own (k := 3) (by omega) 0).1
              have f3 := (own_natP own (k := 3) (by omega) 0).2.1
              have o3 : World.ownsRow _ W.heap.size 3 1 (.slice (some ⟨gb + 1, 0, none⟩) 4 4) 4 (ints (natI [b0, b1, a2, b3])) := (own_natP own (k := 3) (by omega) b3).2.2.1
              have g3 := (own_natP own (k := 3) (by omega) b3).2.2.2
              have bx3 := bx.grown g3 (by intro e; injection e with e; omega)
              have br3 := br.grown g3 (by intro e; injection e with e; omega)
              have hb3 := hb.grown g3 hb.size (fun z e => by injection e with e; omega)
              have FIN := hide (And.intro o3 (And.intro bx3 (And.intro br3 hb3)))
              have HB2 := hide hB2
              have HB3 := hide hB3
              clear o3 g3 bx3 br3 hb3 own hb hB2 hB3
              go_wp2_with fail
              exact ⟨⟨2, by omega, rfl, (by have := FIN.out.1; rw [← HB2.out] at this; exact this), FIN.out.2.1, FIN.out.2.2.1, FIN.out.2.2.2⟩, by simp [intOf]⟩
          · have OWN := hide (show wi.ownsRow W.heap.size 3 1 (.slice (some ⟨gb + 1, 0, none⟩) 4 4) 4 (ints (natI (clsK w x (k + 1)))) by rw [hK1.out]; exact own)
            clear own r0 r1
            go_wp2_with fail
            exact ⟨⟨k + 1, hlt, by go_num, OWN.out, bx, hb⟩, by simp [intOf]; omega⟩
      · obtain rfl : k = n := by omega
        go_wp2_with fail
        go_ret
        exact ⟨_, rfl, own, hb⟩
  · have hc : clsI bc br s = [] := by unfold clsI; rw [if_neg hN]
    have HC := hide hC
    rw [hc]
    clear hC hc hN
    go_enter Try.func13, Try.ntmps13
    go_wp2_with fail
    refine HC.out.mono ?_
    rintro e wa ⟨rfl, b1⟩
    have hb1 : Below W.heap.size W wa := below_then ((Below.refl _ _).alloc (Nat.le_refl _) _) (by simp) b1
    go_wp2_with fail
    go_ret
    exact ⟨_, rfl, World.ownsRow_nil _ _ _ _, hb1.alloc hb1.size _⟩
end Go.Proofs.Ytgbbmnnpphkkbaa
