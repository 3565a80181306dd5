
/-
  Lights: the model's presses, validLights, PressAll, ChaseDown.
-/
import Derived.Test.YtijidecdokbmnacLightA
import Derived.Test.YtijidecdokbmnacLightQ
import Derived.StillTailTactics
namespace Go.Proofs.Ytijidecdokbmnac
open Go.RowKit
set_option linter.unusedVariables false

/-- A row of natural numbers of the call's own: its cells, and one of them written. -/
theorem own_natI {W : World} {base g n c : Nat} {L : List Nat} (h : W.ownsRow base 3 1 (.slice (some ⟨g, 0, none⟩) n c) n (ints (natI L))) {k : Nat} (hk : k < n) (b : Nat) :
    W.cell? ⟨g, k, none⟩ = some (.int .i64 ((L[k]?.getD 0 : Nat) : Int)) ∧ W.frozen? ⟨g, k, none⟩ = false ∧ (W.setCell ⟨g, k, none⟩ (.int .i64 (b : Int))).ownsRow base 3 1 (.slice (some ⟨g, 0, none⟩) n c) n (ints (natI (L.set k b))) ∧ W.grownBy (W.setCell ⟨g, k, none⟩ (.int .i64 (b : Int))) (some g) := by
  have hl : L.length = n := by have := h.1; simpa [natI] using this
  have hc := h.cellAt k (by omega)
  obtain ⟨o, gr⟩ := h.stored k (.int .i64 (b : Int))
  refine ⟨?_, h.frozenAt k, ?_, gr⟩
  · rw [hc]; simp [natI, List.getElem?_eq_getElem (show k < L.length by omega)]
  · rw [show (ints (natI L)).set k (.int .i64 (b : Int)) = ints (natI (L.set k b)) by simp [natI, ints, List.map_set]] at o
    exact o
theorem own_addr {w : World} {base e size n : Nat} {v : Value} {cs : List Value} (h : w.ownsRow base e size v n cs) (hn : 0 < n) : ∃ g c, v = .slice (some ⟨g, 0, none⟩) n c ∧ base ≤ g ∧ g < w.heap.size := by
  rcases h.2 with ⟨_, rfl⟩ | ⟨g, cap, cur, rfl, hb, hg, _⟩
  · omega
  · exact ⟨g, cap, rfl, hb, (Array.getElem?_eq_some_iff.1 hg).1⟩
theorem own_not {w w' : World} {base e size n : Nat} {v : Value} {xs : List Value} {r : Option Nat} (h : w.ownsRow base e size v n xs) (hg : w.grownBy w' r) (hne : v.ownBlock ≠ r) : w'.ownsRow base e size v n xs := h.kept hg (.inr hne)

theorem add0 (g k : Nat) : (⟨g, 0, none⟩ : Addr).add k = ⟨g, k, none⟩ := by unfold Addr.add; split <;> simp_all
def addTo (L : List Nat) : Nat → List Nat
  | 0 => L
  | k + 1 => (addTo L k).set k ((addTo L k)[k]?.getD 0 + 2 ^ k)
def addOk (w h : Nat) : Bool := (addTo (setsP (w : Int) (h : Int) false straight) (w * h) == litL w h) && ((setsP (w : Int) (h : Int) false straight).length == w * h) && (List.range (w * h + 1)).all fun k => (addTo (setsP (w : Int) (h : Int) false straight) k).all fun x => decide (x < 4096)
theorem add_ok : ∀ a : Fin 5, ∀ b : Fin 5, (a.val + 1) * (b.val + 1) ≤ 12 → addOk (a.val + 1) (b.val + 1) = true := by decide +kernel
structure AddIs (w h : Nat) (L : List Nat) : Prop where
  last : addTo L (w * h) = litL w h
  len : L.length = w * h
  bd : ∀ k, k ≤ w * h → ∀ i : Nat, (addTo L k)[i]?.getD 0 < 4096
theorem add_is {w h : Nat} (hw : 1 ≤ w ∧ w ≤ 5) (hh : 1 ≤ h ∧ h ≤ 5) (h12 : w * h ≤ 12) : AddIs w h (setsP (w : Int) (h : Int) false straight) := by
  obtain ⟨a, rfl⟩ : ∃ a, w = a + 1 := ⟨w - 1, by omega⟩
  obtain ⟨b, rfl⟩ : ∃ b, h = b + 1 := ⟨h - 1, by omega⟩
  have H := add_ok ⟨a, by omega⟩ ⟨b, by omega⟩ h12
  simp only [addOk, Bool.and_eq_true, beq_iff_eq] at H
  exact ⟨H.1.1, H.1.2, fun k hk i => all_lt (List.all_eq_true.1 H.2 k (List.mem_range.2 (by omega))) (by decide) i⟩
theorem step_kind : kindL (ByteArray.mk #[115, 116, 101, 112]).toList = some (straight, false) := by decide +kernel
theorem brdN {w h : Nat} (hw : 1 ≤ w ∧ w ≤ 5) (hh : 1 ≤ h ∧ h ≤ 5) : Brd (w : Int) (h : Int) := ⟨by omega, by omega, by omega, by omega⟩
theorem lit12N {w h : Nat} (hw : 1 ≤ w ∧ w ≤ 5) (hh : 1 ≤ h ∧ h ≤ 5) (h12 : w * h ≤ 12) : Lit12 (w : Int) (h : Int) := ⟨brdN hw hh, by rw [← Int.natCast_mul]; omega⟩
theorem litL_len (w h : Nat) : (litL w h).length = w * h := by simp [litL]

set_option maxHeartbeats 1000000 in
set_option maxRecDepth 100000 in
theorem specPresses_c (w h : Nat) (W : World) (hw : 1 ≤ w ∧ w ≤ 5) (hh : 1 ≤ h ∧ h ≤ 5) (h12 : w * h ≤ 12) :
    Calls Try.prog 34 #[.int .i64 (w : Int), .int .i64 (h : Int)] W (Owns 3 1 (w * h) (ints (natI (litL w h))) W) := by
  have hA := add_is hw hh h12
  have HR := hide (fun w5 => reaches12_c (w : Int) (h : Int) ⟨#[115, 116, 101, 112]⟩ straight false w5 step_kind (lit12N hw hh h12))
  have hn : 0 < w * h := Nat.mul_pos (by omega) (by omega)
  rw [hA.len] at HR
  have HL := hide hA.last
  have HB := hide hA.bd
  have h0 : Hid (addTo (setsP (w : Int) (h : Int) false straight) 0 = setsP (w : Int) (h : Int) false straight) := rfl
  have HS := hide (fun k => show addTo (setsP (w : Int) (h : Int) false straight) (k + 1) = (addTo (setsP (w : Int) (h : Int) false straight) k).set k ((addTo (setsP (w : Int) (h : Int) false straight) k)[k]?.getD 0 + 2 ^ k) from rfl)
  have HP := hide (fun (j : Nat) (hj : j ≤ 12) w5 => specPower12_c j hj w5)
  rw [← h0.out] at HR
  clear hA h0
  rw [← HL.out]
  generalize setsP (w : Int) (h : Int) false straight = L at *
  generalize hN : w * h = n at *
  clear hN
  go_enter Try.func34, Try.ntmps34
  go_wp2_with fail
  refine (HR.out _).mono ?_
  rintro e w1 ⟨v1, rfl, o1, b1⟩
  obtain ⟨g, c, rfl, g1, g2⟩ := own_addr o1 hn
  go_wp2_with fail
  go_loopw [6] (fun i wr => ∃ k : Nat, k ≤ n ∧ i = .int .i64 (k : Int) ∧ wr.ownsRow W.heap.size 3 1 (.slice (some ⟨g, 0, none⟩) n c) n (ints (natI (addTo L k))) ∧ Below W.heap.size W wr) (fun i _ => n - (intOf i).toNat)
  case atStart => exact ⟨0, Nat.zero_le _, rfl, o1, b1⟩
  case round =>
    obtain ⟨k, hk, rfl, own, hb⟩ := hrel
    obtain ⟨wo, rfl⟩ : ∃ wo : World, wo = wr := ⟨_, rfl⟩
    by_cases hlt : k < n
    · have hbd := HB.out k hk k
      have HSk := hide (HS.out k)
      obtain ⟨p1, p2⟩ := pow12 (n := k) (by omega)
      have HPk := hide (fun w5 => HP.out k (by omega) w5)
      have HCL := hide (fun (wd : World) (ow : wd.ownsRow W.heap.size 3 1 (.slice (some ⟨g, 0, none⟩) n c) n (ints (natI (addTo L k)))) => own_natI ow (k := k) hlt ((addTo L k)[k]?.getD 0 + 2 ^ k))
      obtain ⟨c1, c2, -, -⟩ := HCL.out wo own
      generalize (addTo L k)[k]?.getD 0 = x at *
      generalize 2 ^ k = P at *
      have e1 : IntKind.i64.wrap ((x : Int) + (P : Int)) = ((x + P : Nat) : Int) := (IntWalk.i64_in _ (by omega)).trans (by omega)
      have k0 : (0 : Int) ≤ (k : Int) := by omega
      have k1 : (k : Int) < (n : Int) := by omega
      go_wp2_with fail
      refine wp_region_still_tail 10 (by kernel_rfl) (by kernel_rfl) ?_
      simp only [List.take_succ_cons, List.take_zero, List.drop_succ_cons, List.drop_zero]
      repeat still_step
      still_call ((HPk.out _).mono (fun _ _ h => ⟨h.1, h.2.symm⟩))
      repeat still_step
      try refine wpStill_nil ?_
      have od := own.drew
      have bd := hb.drew
      change wpList _ _ _ _ _ wo.drew
      clear own hb c1 c2
      generalize wo.drew = wd at *
      obtain ⟨d1, d2, d3, d4⟩ := HCL.out wd od
      rw [← HSk.out] at d3
      have D3 := hide d3
      have D4 := hide (bd.grown d4 bd.size (fun z e => by injection e with e; omega))
      clear d3 d4 od bd HCL
      go_wp2_with fail
      exact ⟨⟨k + 1, hlt, by go_num, D3.out, D4.out⟩, by simp [intOf]; omega⟩
    · obtain rfl : k = n := by omega
      go_wp2_with fail
      go_ret
      exact ⟨_, rfl, own, hb⟩

/-- Lights, or presses, of a board. -/
def LitS (bc br s : Int) : Prop := Lit12 bc br ∧ 0 ≤ s ∧ s ≤ ((2 ^ (bc * br).toNat : Nat) : Int) - 1
instance (bc br s : Int) : Decidable (LitS bc br s) := by unfold LitS; infer_instance
set_option maxHeartbeats 1000000 in
theorem validLights_c (bc br s : Int) (W : World) : Calls Try.prog 15 #[.int .i64 bc, .int .i64 br, .int .i64 s] W fun e w' => e = .returned (.bool (decide (LitS bc br s))) ∧ W = w' := by
  by_cases hB : Brd bc br
  · have HB := hide hB
    have HV := hide (fun w5 => validBoard_yes bc br w5 HB.out)
    obtain ⟨h1, h2, h3, h4⟩ := hB
    obtain ⟨m1, m2⟩ := mul_bd h1 h2 h3 h4
    obtain ⟨n, hn⟩ : ∃ n : Nat, bc * br = (n : Int) := ⟨(bc * br).toNat, by omega⟩
    have e0 : IntKind.i64.wrap (bc * br) = (n : Int) := (IntWalk.i64_in _ (by omega)).trans hn
    by_cases h9 : n ≤ 12
    · have he : decide (LitS bc br s) = decide (0 ≤ s ∧ s ≤ ((2 ^ n : Nat) : Int) - 1) := by
        rw [decide_eq_decide]
        unfold LitS
        rw [hn]
        simp only [Int.toNat_natCast]
        exact ⟨fun h => h.2, fun h => ⟨⟨HB.out, by omega⟩, h⟩⟩
      rw [he]
      obtain ⟨p1, p2⟩ := pow12 h9
      have HP := hide (fun w5 => specPower12_c n h9 w5)
      have HI := hide (fun w5 => inRange_c s 0 (((2 ^ n : Nat) : Int) - 1) w5)
      have n1 : (n : Int) ≤ 12 := by omega
      clear he hn m1 m2
      generalize decide (0 ≤ s ∧ s ≤ ((2 ^ n : Nat) : Int) - 1) = b at *
      generalize 2 ^ n = P at *
      have e1 : IntKind.i64.wrap ((P : Int) - 1) = (P : Int) - 1 := IntWalk.i64_in _ (by omega)
      go_enter Try.func15, Try.ntmps15
      go_wp2_with fail
      refine (HV.out _).mono ?_
      rintro e w1 ⟨rfl, rfl⟩
      go_wp2_with fail
      refine (HP.out _).mono ?_
      rintro e w1 ⟨rfl, rfl⟩
      go_wp2_with fail
      refine (HI.out _).mono ?_
      rintro e w1 ⟨rfl, rfl⟩
      go_wp2_with fail
      go_ret
      exact ⟨by cases b <;> rfl, rfl⟩
    · have he : decide (LitS bc br s) = false := decide_eq_false (fun h => h9 (by have := h.1.2; omega))
      rw [he]
      have n1 : ¬ ((n : Int) ≤ 12) := by omega
      clear he hn m1 m2
      go_enter Try.func15, Try.ntmps15
      go_wp2_with fail
      refine (HV.out _).mono ?_
      rintro e w1 ⟨rfl, rfl⟩
      go_wp2_with fail
      go_ret
      exact ⟨rfl, rfl⟩
  · have he : decide (LitS bc br s) = false := decide_eq_false (fun h => hB h.1.1)
    have HV := hide (fun w5 => validBoard_no bc br w5 hB)
    rw [he]
    clear he hB
    go_enter Try.func15, Try.ntmps15
    go_wp2_with fail
    refine (HV.out _).mono ?_
    rintro e w1 ⟨rfl, rfl⟩
    go_wp2_with fail
    go_ret
    exact ⟨rfl, rfl⟩
theorem specXor_c (a b : Nat) (ha : a < 4096) (hb : b < 4096) (W : World) : Calls Try.prog 22 #[.int .i64 (a : Int), .int .i64 (b : Int)] W fun e w' => e = .returned (.int .i64 ((a ^^^ b : Nat) : Int)) ∧ W = w' := by
  have e1 := not64 a b (by omega) (by omega)
  have e2 := not64 b a (by omega) (by omega)
  have h1 := notP_lt b (show a < 2 ^ 12 by omega)
  have h2 := notP_lt a (show b < 2 ^ 12 by omega)
  have HX := hide (xor_sum 12 a b (by omega) (by omega))
  generalize notP a b = x at *
  generalize notP b a = y at *
  have e3 : IntKind.i64.wrap ((x : Int) + (y : Int)) = ((x + y : Nat) : Int) := (IntWalk.i64_in _ (by omega)).trans (by omega)
  go_enter Try.func22, Try.ntmps22
  go_wp2_with fail
  go_ret
  exact ⟨by rw [← HX.out]; push_cast; rfl, rfl⟩

/-- A board and a set as natural numbers. -/
theorem litS_nat {bc br s : Int} (h : LitS bc br s) : ∃ w h' x : Nat, bc = (w : Int) ∧ br = (h' : Int) ∧ s = (x : Int) ∧ (1 ≤ w ∧ w ≤ 5) ∧ (1 ≤ h' ∧ h' ≤ 5) ∧ w * h' ≤ 12 ∧ x < 2 ^ (w * h') := by
  obtain ⟨⟨⟨h1, h2, h3, h4⟩, h5⟩, h6, h7⟩ := h
  obtain ⟨w, rfl⟩ := Int.eq_ofNat_of_zero_le (show 0 ≤ bc by omega)
  obtain ⟨h', rfl⟩ := Int.eq_ofNat_of_zero_le (show 0 ≤ br by omega)
  obtain ⟨x, rfl⟩ := Int.eq_ofNat_of_zero_le h6
  rw [← Int.natCast_mul] at h5 h7
  rw [Int.toNat_natCast] at h7
  exact ⟨w, h', x, rfl, rfl, rfl, by omega, by omega, by omega, by omega⟩
theorem litS_of {w h x : Nat} (hw : 1 ≤ w ∧ w ≤ 5) (hh : 1 ≤ h ∧ h ≤ 5) (h12 : w * h ≤ 12) (hx : x < 2 ^ (w * h)) : LitS (w : Int) (h : Int) (x : Int) := by
  refine ⟨lit12N hw hh h12, by omega, ?_⟩
  rw [← Int.natCast_mul, Int.toNat_natCast]
  omega
theorem set12 {n x : Nat} (hn : n ≤ 12) (h : x < 2 ^ n) : x < 4096 := Nat.lt_of_lt_of_le h (Nat.pow_le_pow_right (n := 2) (by omega) hn)
theorem lit_bd {w h : Nat} (hw : 1 ≤ w ∧ w ≤ 5) (hh : 1 ≤ h ∧ h ≤ 5) (h12 : w * h ≤ 12) (k : Nat) : (litL w h)[k]?.getD 0 < 2 ^ (w * h) := by
  have := dat_is hw hh h12
  rw [this.lit]
  exact this.bd k
def pressV (bc br x s : Int) : Int := if LitS bc br x ∧ LitS bc br s then ((pressTo (litL bc.toNat br.toNat) x.toNat s.toNat (bc * br).toNat : Nat) : Int) else -1
theorem pressV_nat {w h x s : Nat} (hw : 1 ≤ w ∧ w ≤ 5) (hh : 1 ≤ h ∧ h ≤ 5) (h12 : w * h ≤ 12) (hx : x < 2 ^ (w * h)) (hs : s < 2 ^ (w * h)) : pressV w h x s = ((pressTo (litL w h) x s (w * h) : Nat) : Int) := by
  unfold pressV
  rw [if_pos ⟨litS_of hw hh h12 hx, litS_of hw hh h12 hs⟩, ← Int.natCast_mul]
  simp only [Int.toNat_natCast]

def chaseV (bc br x : Int) : Int × Int := if LitS bc br x then (((chaseTo (litL bc.toNat br.toNat) bc.toNat x.toNat (bc * br).toNat).1 : Int), ((chaseTo (litL bc.toNat br.toNat) bc.toNat x.toNat (bc * br).toNat).2 : Int)) else (-1, -1)
theorem chaseV_nat {w h x : Nat} (hw : 1 ≤ w ∧ w ≤ 5) (hh : 1 ≤ h ∧ h ≤ 5) (h12 : w * h ≤ 12) (hx : x < 2 ^ (w * h)) : chaseV w h x = (((chaseTo (litL w h) w x (w * h)).1 : Int), ((chaseTo (litL w h) w x (w * h)).2 : Int)) := by
  unfold chaseV
  rw [if_pos (litS_of hw hh h12 hx), ← Int.natCast_mul]
  simp only [Int.toNat_natCast]
theorem chase_start (L : List Nat) (w x : Nat) : ∀ k, k ≤ w → chaseTo L w x k = (0, x)
  | 0, _ => rfl
  | k + 1, hk => by
    simp only [chaseTo]
    rw [chase_start L w x k (by omega), if_neg (by omega)]

end Go.Proofs.Ytijidecdokbmnac
