
/-
  Pegs: the model's classOf and ClassOf.
-/
import Derived.Test.YtgbbmnnpphkkbaaPegA
import Derived.StillTailTactics
namespace Go.Proofs.Ytgbbmnnpphkkbaa
open Go.RowKit
set_option linter.unusedVariables false

theorem own_lit3 (w : World) (base : Nat) (hb : base ≤ w.heap.size) (a b c : Int) : (w.alloc (.cells #[.int .i64 a, .int .i64 b, .int .i64 c] 3)).ownsRow base 3 1 (.slice (some ⟨w.heap.size, 0, none⟩) 3 3) 3 (ints [a, b, c]) :=
  ⟨by simp, .inr ⟨w.heap.size, 3, #[.int .i64 a, .int .i64 b, .int .i64 c], rfl, hb, heap_alloc_new w _, Nat.le_refl _, by simp [maxLen], rfl, by simp⟩⟩
theorem own_lit4 (w : World) (base : Nat) (hb : base ≤ w.heap.size) (a b c d : Int) : (w.alloc (.cells #[.int .i64 a, .int .i64 b, .int .i64 c, .int .i64 d] 3)).ownsRow base 3 1 (.slice (some ⟨w.heap.size, 0, none⟩) 4 4) 4 (ints [a, b, c, d]) :=
  ⟨by simp, .inr ⟨w.heap.size, 4, #[.int .i64 a, .int .i64 b, .int .i64 c, .int .i64 d], rfl, hb, heap_alloc_new w _, Nat.le_refl _, by simp [maxLen], rfl, by simp⟩⟩
set_option maxHeartbeats 4000000 in
set_option maxRecDepth 100000 in
theorem classOf_c (w h s : Nat) (W : World) (hw : 1 ≤ w ∧ w ≤ 5) (hh : 1 ≤ h ∧ h ≤ 5) (h12 : w * h ≤ 12) (hs : s < 4096) :
    Calls Try.prog 30 #[.int .i64 (w : Int), .int .i64 (h : Int), .int .i64 (s : Int)] W (Owns 3 1 4 (ints (natI (clsL w (w * h) s))) W) := by
  have HB := hide (fun (j : Nat) (hj : j ≤ 12) w5 => specBit12_c s j (by omega) hj w5)
  have emul : IntKind.i64.wrap ((w : Int) * (h : Int)) = ((w * h : Nat) : Int) := by rw [Int.natCast_mul]; exact IntWalk.i64_in _ (by rw [← Int.natCast_mul]; omega)
  have HC := hide (clsL_is w (w * h) s)
  rw [HC.out]
  have hw0 : w ≠ 0 := by omega
  clear HC
  generalize w * h = n at *
  obtain ⟨w1, w5⟩ := hw
  clear hh
  go_enter Try.func30, Try.ntmps30
  go_wp2_with fail
  go_loopw [9] (fun i wr => ∃ k : Nat, k ≤ n ∧ i = .int .i64 (k : Int) ∧ wr.ownsRow W.heap.size 3 1 (.slice (some ⟨W.heap.size, 0, none⟩) 3 3) 3 (ints (natI (cntL (dnF w) s k))) ∧ wr.ownsRow W.heap.size 3 1 (.slice (some ⟨W.heap.size + 1, 0, none⟩) 3 3) 3 (ints (natI (cntL (upF w) s k))) ∧ Below W.heap.size W wr) (fun i _ => n - (intOf i).toNat)
  case atStart =>
    refine ⟨0, Nat.zero_le _, rfl, ?_, ?_, ((Below.refl _ _).alloc (Nat.le_refl _) _).alloc (by simp) _⟩
    · exact (own_lit3 W W.heap.size (Nat.le_refl _) 0 0 0).alloc _
    · have := own_lit3 (W.alloc (.cells #[.int .i64 0, .int .i64 0, .int .i64 0] 3)) W.heap.size (by simp) 0 0 0
      rw [World.size_alloc] at this
      exact this
  case round =>
    obtain ⟨k, hk, rfl, od, ou, hb⟩ := hrel
    obtain ⟨wo, rfl⟩ : ∃ wo : World, wo = wr := ⟨_, rfl⟩
    by_cases hlt : k < n
    · have HBk := hide (fun w5 => HB.out k (by omega) w5)
      have hbt := bit_is s k
      rcases bitN_two s k with hbk | hbk
      · rw [hbk] at HBk hbt
        have K1 := hide (cntL_keep (f := dnF w) (s := s) (k := k) (by rw [hbt]; rfl))
        have K2 := hide (cntL_keep (f := upF w) (s := s) (k := k) (by rw [hbt]; rfl))
        have OO := hide (And.intro od ou)
        clear od ou hbt
        go_wp2_with fail
        refine (HBk.out _).mono ?_
        rintro e w' ⟨rfl, rfl⟩
        go_wp2_with fail
        exact ⟨⟨k + 1, hlt, by go_num, by rw [K1.out]; exact OO.out.1, by rw [K2.out]; exact OO.out.2, hb⟩, by simp [intOf]; omega⟩
      · rw [hbk] at HBk hbt
        have hd3 : dnF w k < 3 := Nat.mod_lt _ (by omega)
        have hu3 : upF w k < 3 := Nat.mod_lt _ (by omega)
        have K1 := hide (cntL_put (f := dnF w) (s := s) (k := k) hd3 (by rw [hbt]; rfl))
        have K2 := hide (cntL_put (f := upF w) (s := s) (k := k) hu3 (by rw [hbt]; rfl))
        have hx := cntL_le (f := dnF w) (s := s) (k := k) (dnF w k)
        have hy := cntL_le (f := upF w) (s := s) (k := k) (upF w k)
        have HD := hide (fun (wd : World) (ow : wd.ownsRow W.heap.size 3 1 (.slice (some ⟨W.heap.size, 0, none⟩) 3 3) 3 (ints (natI (cntL (dnF w) s k)))) => own_natP ow (k := dnF w k) hd3 ((cntL (dnF w) s k)[dnF w k]?.getD 0 + 1))
        have HU := hide (fun (wd : World) (ow : wd.ownsRow W.heap.size 3 1 (.slice (some ⟨W.heap.size + 1, 0, none⟩) 3 3) 3 (ints (natI (cntL (upF w) s k)))) => own_natP ow (k := upF w k) hu3 ((cntL (upF w) s k)[upF w k]?.getD 0 + 1))
        obtain ⟨d1, d2, d3, d4⟩ := HD.out wo od
        have ou2 := own_notP (w' := wo.setCell ⟨W.heap.size, dnF w k, none⟩ (.int .i64 (((cntL (dnF w) s k)[dnF w k]?.getD 0 + 1 : Nat) : Int))) ou d4 (by simp [Value.ownBlock])
        obtain ⟨u1, u2, u3, u4⟩ := HU.out _ ou2
        have od2 := hide (own_notP d3 u4 (by simp [Value.ownBlock]))
        have b2 := hide ((hb.grown d4 hb.size (fun z e => by injection e with e; omega)).grown u4 (Nat.le_trans hb.size d4.size) (fun z e => by injection e with e; omega))
        have u3 := hide u3
        rw [K1.out] at od2
        rw [K2.out] at u3
        have t1 : Int.tdiv (k : Int) (w : Int) = ((k / w : Nat) : Int) := rfl
        have t2 : Int.tmod (k : Int) (w : Int) = ((k % w : Nat) : Int) := rfl
        have hkd := Nat.div_le_self k w
        have hkm := Nat.mod_lt k (show 0 < w by omega)
        have hdF : dnF w k = (k / w + k % w) % 3 := rfl
        have huF : upF w k = (k / w + 15 - k % w) % 3 := rfl
        generalize k / w = r at *
        generalize k % w = c at *
        have e1 : IntKind.i64.wrap (r : Int) = (r : Int) := IntWalk.i64_in _ (by omega)
        have e2 : IntKind.i64.wrap (c : Int) = (c : Int) := IntWalk.i64_in _ (by omega)
        obtain ⟨p, hp⟩ : ∃ p, r + c = p := ⟨_, rfl⟩
        obtain ⟨p', hp'⟩ : ∃ p', r + 15 - c = p' := ⟨_, rfl⟩
        have e3 : IntKind.i64.wrap ((r : Int) + (c : Int)) = (p : Int) := (IntWalk.i64_in _ (by omega)).trans (by omega)
        have e4 : IntKind.i64.wrap ((r : Int) - (c : Int)) = (r : Int) - (c : Int) := IntWalk.i64_in _ (by omega)
        have e5 : IntKind.i64.wrap ((r : Int) - (c : Int) + 15) = (p' : Int) := (IntWalk.i64_in _ (by omega)).trans (by omega)
        have t3 : Int.tmod (p : Int) 3 = ((dnF w k : Nat) : Int) := by rw [hdF, hp]; rfl
        have t4 : Int.tmod (p' : Int) 3 = ((upF w k : Nat) : Int) := by rw [huF, hp']; rfl
        clear hp hp' hdF huF HD HU K1 K2 od ou ou2 d3 d4 u4 hbt
        generalize (cntL (dnF w) s k)[dnF w k]?.getD 0 = x at *
        generalize (cntL (upF w) s k)[upF w k]?.getD 0 = y at *
        generalize hx1 : x + 1 = x1 at *
        generalize hy1 : y + 1 = y1 at *
        generalize dnF w k = dk at *
        generalize upF w k = uk at *
        have f1 : IntKind.i64.wrap ((x : Int) + 1) = (x1 : Int) := (IntWalk.i64_in _ (by omega)).trans (by omega)
        have f2 : IntKind.i64.wrap ((y : Int) + 1) = (y1 : Int) := (IntWalk.i64_in _ (by omega)).trans (by omega)
        clear hx1 hy1
        have g1 : (0 : Int) ≤ (dk : Int) := by omega
        have g2 : (dk : Int) < 3 := by omega
        have g3 : (0 : Int) ≤ (uk : Int) := by omega
        have g4 : (uk : Int) < 3 := by omega
        go_wp2_with fail
        refine (HBk.out _).mono ?_
        rintro e w' ⟨rfl, rfl⟩
        go_wp2_with fail
        exact ⟨⟨k + 1, hlt, by go_num, od2.out, u3.out, b2.out⟩, by simp [intOf]; omega⟩
    · obtain rfl : k = n := by omega
      have c0 := (own_natP od (k := 0) (by omega) 0).1
      have c1 := (own_natP od (k := 1) (by omega) 0).1
      have c2 := (own_natP od (k := 2) (by omega) 0).1
      have v0 := (own_natP ou (k := 0) (by omega) 0).1
      have v1 := (own_natP ou (k := 1) (by omega) 0).1
      have v2 := (own_natP ou (k := 2) (by omega) 0).1
      simp only [cntL, List.getElem?_cons_zero, List.getElem?_cons_succ, Option.getD_some] at c0 c1 c2 v0 v1 v2
      have a0 := cntR_le (dnF w) s 0 k
      have a1 := cntR_le (dnF w) s 1 k
      have a2 := cntR_le (dnF w) s 2 k
      have a3 := cntR_le (upF w) s 0 k
      have a4 := cntR_le (upF w) s 1 k
      have a5 := cntR_le (upF w) s 2 k
      clear od ou
      generalize cntR (dnF w) s 0 k = x0 at *
      generalize cntR (dnF w) s 1 k = x1 at *
      generalize cntR (dnF w) s 2 k = x2 at *
      generalize cntR (upF w) s 0 k = y0 at *
      generalize cntR (upF w) s 1 k = y1 at *
      generalize cntR (upF w) s 2 k = y2 at *
      obtain ⟨p1, h1⟩ : ∃ p1, x0 + x1 = p1 := ⟨_, rfl⟩
      obtain ⟨p2, h2⟩ : ∃ p2, x1 + x2 = p2 := ⟨_, rfl⟩
      obtain ⟨p3, h3⟩ : ∃ p3, y0 + y1 = p3 := ⟨_, rfl⟩
      obtain ⟨p4, h4⟩ : ∃ p4, y1 + y2 = p4 := ⟨_, rfl⟩
      have e1 : IntKind.i64.wrap ((x0 : Int) + (x1 : Int)) = (p1 : Int) := (IntWalk.i64_in _ (by omega)).trans (by omega)
      have e2 : IntKind.i64.wrap ((x1 : Int) + (x2 : Int)) = (p2 : Int) := (IntWalk.i64_in _ (by omega)).trans (by omega)
      have e3 : IntKind.i64.wrap ((y0 : Int) + (y1 : Int)) = (p3 : Int) := (IntWalk.i64_in _ (by omega)).trans (by omega)
      have e4 : IntKind.i64.wrap ((y1 : Int) + (y2 : Int)) = (p4 : Int) := (IntWalk.i64_in _ (by omega)).trans (by omega)
      have t1 : Int.tmod (p1 : Int) 2 = ((p1 % 2 : Nat) : Int) := rfl
      have t2 : Int.tmod (p2 : Int) 2 = ((p2 % 2 : Nat) : Int) := rfl
      have t3 : Int.tmod (p3 : Int) 2 = ((p3 % 2 : Nat) : Int) := rfl
      have t4 : Int.tmod (p4 : Int) 2 = ((p4 % 2 : Nat) : Int) := rfl
      have EQ := hide (show natI [(x0 + x1) % 2, (x1 + x2) % 2, (y0 + y1) % 2, (y1 + y2) % 2] = [((p1 % 2 : Nat) : Int), ((p2 % 2 : Nat) : Int), ((p3 % 2 : Nat) : Int), ((p4 % 2 : Nat) : Int)] by rw [h1, h2, h3, h4]; rfl)
      clear h1 h2 h3 h4
      generalize p1 % 2 = q1 at *
      generalize p2 % 2 = q2 at *
      generalize p3 % 2 = q3 at *
      generalize p4 % 2 = q4 at *
      have hbd := hide ((hb.alloc hb.size (.cells #[.int .i64 (q1 : Int), .int .i64 (q2 : Int), .int .i64 (q3 : Int), .int .i64 (q4 : Int)] 3)).drew)
      go_wp2_with fail
      go_still_tail 32, (by kernel_rfl)
      change wpList _ _ _ _ _ wo.drew
      go_wp2_with fail
      go_ret
      refine ⟨.slice (some ⟨wo.heap.size, 0, none⟩) 4 4, rfl, ?_, hbd.out⟩
      rw [EQ.out]
      exact (own_lit4 wo W.heap.size hb.size (q1 : Int) (q2 : Int) (q3 : Int) (q4 : Int)).drew

def clsI (bc br s : Int) : List Int := if PegS bc br s then natI (clsL bc.toNat (bc.toNat * br.toNat) s.toNat) else []
theorem specClassOf_c (bc br s : Int) (W : World) : Calls Try.prog 12 #[.int .i64 bc, .int .i64 br, .int .i64 s] W (Owns 3 1 (clsI bc br s).length (ints (clsI bc br s)) W) := by
  have HV := hide (fun w5 => validPegs_c bc br s w5)
  by_cases hP : PegS bc br s
  · have hc : clsI bc br s = natI (clsL bc.toNat (bc.toNat * br.toNat) s.toNat) := by unfold clsI; rw [if_pos hP]
    rw [decide_eq_true hP] at HV
    obtain ⟨⟨⟨h1, h2, h3, h4⟩, h12⟩, s0, s1⟩ := hP
    obtain ⟨w, rfl⟩ := Int.eq_ofNat_of_zero_le (show 0 ≤ bc by omega)
    obtain ⟨h, rfl⟩ := Int.eq_ofNat_of_zero_le (show 0 ≤ br by omega)
    obtain ⟨x, rfl⟩ := Int.eq_ofNat_of_zero_le s0
    rw [← Int.natCast_mul] at h12
    rw [← Int.natCast_mul, Int.toNat_natCast] at s1
    have p12 := (pow12 (n := w * h) (by omega)).2
    simp only [Int.toNat_natCast] at hc
    have HC := hide (fun w5 => classOf_c w h x w5 (by omega) (by omega) (by omega) (by omega))
    have hl : (clsI (w : Int) (h : Int) (x : Int)).length = 4 := by rw [hc]; rfl
    rw [hl, hc]
    generalize natI (clsL w (w * h) x) = L at *
    clear hl hc p12 s1 s0 h1 h2 h3 h4 h12
    go_enter Try.func12, Try.ntmps12
    go_wp2_with fail
    refine (HV.out _).mono ?_
    rintro e w1 ⟨rfl, rfl⟩
    go_wp2_with fail
    refine (HC.out _).mono ?_
    rintro e w2 ⟨v2, rfl, o2, d2⟩
    go_wp2_with fail
    go_ret
    exact ⟨v2, rfl, o2, d2⟩
  · have hc : clsI bc br s = [] := by unfold clsI; rw [if_neg hP]
    rw [decide_eq_false hP] at HV
    rw [hc]
    clear hc hP
    go_enter Try.func12, Try.ntmps12
    go_wp2_with fail
    refine (HV.out _).mono ?_
    rintro e w1 ⟨rfl, rfl⟩
    go_wp2_with fail
    go_ret
    exact ⟨_, rfl, World.ownsRow_nil _ _ _ _, Below.refl _ _⟩
end Go.Proofs.Ytgbbmnnpphkkbaa
