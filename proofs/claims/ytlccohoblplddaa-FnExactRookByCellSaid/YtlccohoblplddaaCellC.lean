
/-
  The program's RookByCell; the walk of the law FnRookCounts.
-/
import Derived.Test.YtlccohoblplddaaCellB
import Derived.Test.YtlccohoblplddaaRookC
import Derived.Test.YtlccohoblplddaaSeatB
import Derived.Test.YtlccohoblplddaaCodeWords
namespace Go.Proofs.Ytlccohoblplddaa
open Go.RowKit
set_option linter.unusedVariables false

theorem nat_seats {l : List Int} (h : Seats l) : natI (natsP l) = l := by
  apply List.ext_getElem
  · simp [natI, natsP]
  · intro i i1 i2
    have := (nats_at h i2).1
    rw [List.getElem?_eq_getElem i2, Option.getD_some] at this
    rw [this]
    have h2 : i < (natsP l).length := by simpa [natsP] using i2
    simp only [natI, List.getElem_map]
    rw [List.getElem?_eq_getElem h2, Option.getD_some]
theorem counts_rkL (l : List Int) : countsP l = rkL (natsP l) := by
  unfold countsP rkL
  rw [nats_len]
theorem nats_small {l : List Int} (h : Seats l) : ∀ x ∈ natsP l, x < 32 := fun x hx => by
  obtain ⟨i, hi, rfl⟩ := List.getElem_of_mem hx
  have hl : i < l.length := by simpa [natsP] using hi
  have := (nats_at h hl).2
  rw [List.getElem?_eq_getElem hi, Option.getD_some] at this
  exact Nat.lt_of_lt_of_le this (pow32 h.1.2)
theorem implRookByCell_c (A : Option Addr) (c : Nat) (l : List Int) (w : World) (hr : Row w A (ints l)) (hm : l.length ≤ maxLen) :
    Calls Try.prog 14 #[.slice A l.length c] w (Owns 3 1 (if Seats l then countsP l else []).length (ints (if Seats l then countsP l else [])) w) := by
  have HV := hide (implValidSeats_c A c l w hr hm)
  by_cases hs : Seats l
  · rw [decide_eq_true hs] at HV
    rw [if_pos hs]
    have hA : ∃ ad, A = some ad := by
      obtain ⟨ad, e, _⟩ := hr 0 (by simp; exact hs.1.1)
      exact ⟨ad, e⟩
    obtain ⟨ad, rfl⟩ := hA
    have HO := hide (fun (w5 : World) (h5 : Row w5 (some ad) (ints l)) => rooksByCell_c l.length hs.1.1 hs.1.2 _ (natsP l) rfl (nats_len l) (nats_small hs) ad c w5 (by rw [nat_seats hs]; exact h5))
    rw [← counts_rkL] at HO
    have hl := hide (show (countsP l).length = l.length + 1 by simp [countsP])
    clear hs hm
    generalize countsP l = res at *
    go_enter Try.func14, Try.ntmps14
    go_wp2_with fail
    refine HV.out.mono ?_
    rintro e w1 ⟨rfl, b1⟩
    go_wp2_with fail
    refine (HO.out _ (hr.below b1)).mono ?_
    rintro e w2 ⟨v, rfl, own, b2⟩
    go_wp2_with fail
    go_ret
    exact ⟨v, rfl, by rw [hl.out]; exact own_mono own b1.size, below_then b1 b1.size b2⟩
  · rw [decide_eq_false hs] at HV
    rw [if_neg hs]
    clear hs hm hr
    go_enter Try.func14, Try.ntmps14
    go_wp2_with fail
    refine HV.out.mono ?_
    rintro e w1 ⟨rfl, b1⟩
    go_wp2_with fail
    go_ret
    exact ⟨_, rfl, ⟨rfl, .inl ⟨rfl, rfl⟩⟩, b1⟩

theorem pc_half : ∀ y : Fin 32, pc y.val = y.val % 2 + pc (y.val / 2) := by decide +kernel
theorem bitsOf_c (x : Nat) (hx : x < 32) (w : World) : Calls Try.prog 17 #[.int .i64 (x : Int)] w fun e w' => e = .returned (.int .i64 ((pc x : Nat) : Int)) ∧ w = w' := by
  have hpx := pc_le ⟨x, hx⟩
  simp only at hpx
  generalize hX : pc x = X at *
  go_enter Try.func17, Try.ntmps17
  go_wp2_with fail
  go_loopw [0, 3] (fun a s wr => ∃ y n : Nat, y < 32 ∧ a = .int .i64 (y : Int) ∧ s = .int .i64 (n : Int) ∧ Hid (n + pc y = X) ∧ n ≤ 5 ∧ w = wr) (fun a _ _ => (intOf a).toNat)
  case atStart => exact ⟨x, 0, hx, rfl, rfl, by show 0 + pc x = X; omega, by omega, rfl⟩
  case round =>
    obtain ⟨y, n, hy, rfl, rfl, hs, hn, rfl⟩ := hrel
    by_cases h0 : 0 < y
    · have hh := pc_half ⟨y, hy⟩
      simp only at hh
      have t1 : Int.tmod (y : Int) 2 = ((y % 2 : Nat) : Int) := by rw [Int.tmod_eq_emod_of_nonneg (by omega)]; omega
      have t2 : Int.tdiv (y : Int) 2 = ((y / 2 : Nat) : Int) := by rw [Int.tdiv_eq_ediv_of_nonneg (by omega)]; omega
      have t1' : (y : Int) % 2 = ((y % 2 : Nat) : Int) := by omega
      have t2' : (y : Int) / 2 = ((y / 2 : Nat) : Int) := by omega
      have b1 : y % 2 ≤ 1 := by omega
      have b2 : y / 2 < y := by omega
      have hs2 : Hid (n + y % 2 + pc (y / 2) = X) := by have := hs.out; show _ = X; omega
      have hn2 : n + y % 2 ≤ 5 := by have := hs2.out; have := hX; omega
      generalize y % 2 = r at *
      generalize y / 2 = h at *
      clear hh hs
      have hpos : (0 : Int) < (y : Int) := by omega
      have e1 : IntKind.i64.wrap (h : Int) = (h : Int) := IntWalk.i64_in _ (by omega)
      have e2 : IntKind.i64.wrap (r : Int) = (r : Int) := IntWalk.i64_in _ (by omega)
      go_wp2_with fail
      exact ⟨⟨h, n + r, by omega, rfl, by push_cast; rfl, hs2.out, hn2, trivial⟩, by simp [intOf]; omega⟩
    · obtain rfl : y = 0 := by omega
      have hn3 : Hid (n = X) := by have := hs.out; have h2 : pc 0 = 0 := (by decide); show n = X; omega
      clear hs
      go_wp2_with fail
      go_ret
      exact ⟨by rw [hn3.out]; rfl, rfl⟩

theorem equalInts_u (A C : Option Addr) (n m ca cc : Nat) (xs ys : List Int) (w : World) (hx : xs.length = n) (hy : ys.length = m) (ha : Row w A (ints xs)) (hc : Row w C (ints ys)) (hn : xs.length ≤ 1000) (he : xs = ys) :
    Calls Try.prog 16 #[.slice A n ca, .slice C m cc] w (Plain (.bool true) w) := by
  subst hx hy he
  have := equalInts_c A C xs xs ca cc w ha hc (by simp [maxLen]; omega) (by simp [maxLen]; omega)
  rwa [decide_eq_true rfl] at this

theorem counts_len (l : List Int) : (countsP l).length = l.length + 1 := by simp [countsP]
theorem counts_at (l : List Int) (k : Nat) (h : k ≤ l.length) : (countsP l)[k]?.getD 0 = ((rk (natsP l) 0 k : Nat) : Int) := by rw [counts_rkL]; exact rkL_at (by rw [nats_len]; exact h)
theorem sum_snoc (R : List Nat) (k : Nat) (h : k < R.length) : ((R.take (k + 1)).map pc).sum = ((R.take k).map pc).sum + pc (R[k]?.getD 0) := by
  rw [take_snocN R k h]; simp
theorem sum_pc_le (R : List Nat) (h : ∀ x ∈ R, x < 32) : (R.map pc).sum ≤ 5 * R.length := by
  induction R with
  | nil => simp
  | cons a R ih =>
    have := pc_le ⟨a, h a List.mem_cons_self⟩
    have := ih (fun x hx => h x (List.mem_cons_of_mem _ hx))
    simp only [List.map_cons, List.sum_cons, List.length_cons] at *
    omega
theorem one_rook (l : List Int) : rk (natsP l) 0 1 = ((natsP l).map pc).sum := rk_one (natsP l)
set_option maxHeartbeats 2000000 in
set_option maxRecDepth 100000 in
theorem rookCounts_w (A : Option Addr) (n c : Nat) (w : World) (h : Code w A n c) : Calls Try.prog 5 #[.slice A n c] w (Plain (.bool true) w) := by
  by_cases hl : 1048576 < (n : Int)
  · go_enter Try.func5, Try.ntmps5
    go_wp2
    go_ret
    exact ⟨rfl, Below.refl _ _⟩
  · have HC := hide (drawRookCounts_c A n c w h)
    clear h
    go_enter Try.func5, Try.ntmps5
    go_wp2_with fail
    refine HC.out.mono ?_
    rintro e w1 ⟨v, l, rfl, o1, hl5, b1⟩
    obtain ⟨A1, c1, rfl, _⟩ := own_row o1
    have HLM := hide (show l.length ≤ maxLen by unfold maxLen; omega)
    have HS := hide (fun (A : Option Addr) (c : Nat) (w5 : World) (h5 : Row w5 A (ints l)) => specRookCounts_c A c l w5 h5 HLM.out)
    have HI := hide (fun (A : Option Addr) (c : Nat) (w5 : World) (h5 : Row w5 A (ints l)) => implRookCounts_c A c l w5 h5 HLM.out)
    have HB := hide (fun (A : Option Addr) (c : Nat) (w5 : World) (h5 : Row w5 A (ints l)) => implRookByCell_c A c l w5 h5 HLM.out)
    clear HC
    by_cases hs : Seats l
    · rw [if_pos hs] at HS HI HB
      rw [counts_len] at HS HI HB
      have hc0 : Hid ((countsP l)[0]?.getD 0 = 1) := by show _ = _; rw [counts_at l 0 (by omega), rk_zero]; rfl
      have hc1 : Hid ((countsP l)[1]?.getD 0 = ((((natsP l).map pc).sum : Nat) : Int)) := by show _ = _; rw [counts_at l 1 hs.1.1, one_rook]
      have hcl := hide (counts_len l)
      have hnn := hide (fun (k : Nat) (hk : k < l.length) => (nats_at hs hk).1)
      have hsm := hide (nats_small hs)
      have hnl := hide (nats_len l)
      have hpos := hs.1.1
      clear hs
      generalize countsP l = out at *
      generalize natsP l = R at *
      have hz : ((l.length + 1 : Nat) : Int) ≠ 0 := by omega
      have hz2 : ((l.length : Int) + 1 == 0) = false := by rw [beq_eq_false_iff_ne]; omega
      go_wp2_with fail
      refine (HI.out A1 c1 _ (own_reads o1)).mono ?_
      rintro e w2 ⟨v2, rfl, o2, b2⟩
      obtain ⟨g2, c2, rfl, _⟩ := own_one o2 (by omega)
      have o1 := own_below o1 b2
      have b2 := below_then b1 b1.size b2
      go_wp2_with fail
      refine (HS.out A1 c1 _ (own_reads o1)).mono ?_
      rintro e w3 ⟨v3, rfl, o3, b3⟩
      obtain ⟨A3, c3, rfl, _⟩ := own_row o3
      have o1 := own_below o1 b3
      have o2 := own_below o2 b3
      have b3 := below_then b2 b2.size b3
      go_wp2_with fail
      refine (equalInts_u _ _ _ _ _ _ out out _ hcl.out hcl.out (own_reads o2) (own_reads o3) (by rw [hcl.out]; omega) rfl).mono ?_
      rintro e w4 ⟨rfl, b4⟩
      have o1 := own_below o1 b4
      have o2 := own_below o2 b4
      have b4 := below_then b3 b3.size b4
      clear o3
      have r1 := own_reads o1
      go_wp2_with fail
      go_loopw [5, 6] (fun a i wr => ∃ k : Nat, k ≤ l.length ∧ i = .int .i64 (k : Int) ∧ a = .int .i64 ((((R.take k).map pc).sum : Nat) : Int) ∧ w4 = wr) (fun _ i _ => l.length - (intOf i).toNat)
      case atStart => exact ⟨0, Nat.zero_le _, rfl, rfl, rfl⟩
      case round =>
        obtain ⟨k, hk, rfl, rfl, rfl⟩ := hrel
        have hbd := sum_pc_le (R.take k) (fun x hx => hsm.out x (List.mem_of_mem_take hx))
        rw [List.length_take] at hbd
        have hbd : ((R.take k).map pc).sum ≤ 25 := by have := Nat.min_le_left k R.length; omega
        by_cases hlt : k < l.length
        · obtain ⟨ad, rfl, hca⟩ := r1.int (k := k) hlt
          rw [hnn.out k hlt] at hca
          have hsn := hide (sum_snoc R k (by rw [hnl.out]; exact hlt))
          have hx := small_at (by omega) hsm.out k
          generalize R[k]?.getD 0 = x at *
          have HBi := hide (fun w5 => bitsOf_c x hx w5)
          have hpx := pc_le ⟨x, hx⟩
          simp only at hpx
          generalize ((R.take k).map pc).sum = s at *
          generalize hpe : pc x = p at *
          clear hpe
          have k0 : (0 : Int) ≤ (k : Int) := by omega
          have k1 : (k : Int) < (l.length : Int) := by omega
          go_wp2_with fail
          refine (HBi.out _).mono ?_
          rintro e w5 ⟨rfl, rfl⟩
          go_wp2_with fail
          exact ⟨⟨k + 1, hlt, rfl, by rw [hsn.out]; push_cast; rfl, trivial⟩, by simp [intOf]; omega⟩
        · obtain rfl : k = l.length := by omega
          have hall : Hid (((R.take l.length).map pc).sum = (R.map pc).sum) := by show _ = _; rw [← hnl.out, List.take_length]
          rw [hall.out] at hbd ⊢
          generalize (R.map pc).sum = S at *
          have h0 := o2.cellAt 0 (by omega)
          have h1 := o2.cellAt 1 (by omega)
          rw [at_ints (by rw [hcl.out]; omega), hc0.out] at h0
          rw [at_ints (by rw [hcl.out]; omega), hc1.out] at h1
          have g2lt := (o2.lt g2 rfl).2
          go_wp2_with fail
          refine (HB.out A1 c1 _ r1).mono ?_
          rintro e w5 ⟨v5, rfl, o5, b5⟩
          obtain ⟨A5, c5, rfl, _⟩ := own_row o5
          have o2 := own_below o2 b5
          have b5 := below_then b4 b4.size b5
          clear h0 h1
          have h0 := o2.cellAt 0 (by omega)
          have h1 := o2.cellAt 1 (by omega)
          rw [at_ints (by rw [hcl.out]; omega), hc0.out] at h0
          rw [at_ints (by rw [hcl.out]; omega), hc1.out] at h1
          go_wp2_with fail
          refine (equalInts_u _ _ _ _ _ _ out out _ hcl.out hcl.out (own_reads o5) (own_reads o2) (by rw [hcl.out]; omega) rfl).mono ?_
          rintro e w6 ⟨rfl, b6⟩
          have o2 := own_below o2 b6
          have b6 := below_then b5 b5.size b6
          clear h0 h1
          have h0 := o2.cellAt 0 (by omega)
          have h1 := o2.cellAt 1 (by omega)
          rw [at_ints (by rw [hcl.out]; omega), hc0.out] at h0
          rw [at_ints (by rw [hcl.out]; omega), hc1.out] at h1
          have i1 : (1 : Int) < ((l.length + 1 : Nat) : Int) := by omega
          have i1' : (1 : Int) < (l.length : Int) + 1 := by omega
          go_wp2_with fail
          go_ret
          exact ⟨rfl, b6⟩
    · rw [if_neg hs] at HS HI
      clear hs HB
      go_wp2_with fail
      refine (HI.out A1 c1 _ (own_reads o1)).mono ?_
      rintro e w2 ⟨v2, rfl, o2, b2⟩
      obtain ⟨A2, c2, rfl, _⟩ := own_row o2
      have o1 := own_below o1 b2
      have b2 := below_then b1 b1.size b2
      go_wp2_with fail
      refine (HS.out A1 c1 _ (own_reads o1)).mono ?_
      rintro e w3 ⟨v3, rfl, o3, b3⟩
      obtain ⟨A3, c3, rfl, _⟩ := own_row o3
      have o1 := own_below o1 b3
      have o2 := own_below o2 b3
      have b3 := below_then b2 b2.size b3
      go_wp2_with fail
      refine (equalInts_u _ _ _ _ _ _ [] [] _ rfl rfl (own_reads o2) (own_reads o3) (by simp) rfl).mono ?_
      rintro e w4 ⟨rfl, b4⟩
      have o1 := own_below o1 b4
      have o2 := own_below o2 b4
      have b4 := below_then b3 b3.size b4
      clear o3
      go_wp2_with fail
      refine (HS.out A1 c1 _ (own_reads o1)).mono ?_
      rintro e w5 ⟨v5, rfl, o5, b5⟩
      obtain ⟨A5, c5, rfl, _⟩ := own_row o5
      have o2 := own_below o2 b5
      have b5 := below_then b4 b4.size b5
      go_wp2_with fail
      refine (equalInts_u _ _ _ _ _ _ [] [] _ rfl rfl (own_reads o2) (own_reads o5) (by simp) rfl).mono ?_
      rintro e w6 ⟨rfl, b6⟩
      have b6 := below_then b5 b5.size b6
      go_wp2_with fail
      go_ret
      exact ⟨rfl, b6⟩
end Go.Proofs.Ytlccohoblplddaa
