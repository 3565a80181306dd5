
/-
  Pegs: the model's jumps, JumpsOf.
-/
import Derived.Test.YtgbbmnnpphkkbaaPegA
import Derived.Test.YtgbbmnnpphkkbaaPegR
import Derived.Test.YtgbbmnnpphkkbaaRowsA
namespace Go.Proofs.Ytgbbmnnpphkkbaa
open Go.RowKit
set_option linter.unusedVariables false

/-- One more row of three numbers. -/
theorem reads_push {wo w' : World} {v v' : Value} {vs : List Value} {L : List (List Int)} {B : Nat} {a b c : Int} (hown : wo.ownsRow B 27 1 v vs.length vs) (hrd : Reads wo B vs L) (hoff : ∀ g, v.ownBlock = some g → Off g vs) (hne : ∀ y ∈ L, 1 ≤ y.length) (hB : B ≤ wo.heap.size)
    (hg : ((wo.alloc (.cells #[.int .i64 a, .int .i64 b, .int .i64 c] 3)).alloc (.cells #[.slice (some ⟨wo.heap.size, 0, none⟩) 3 3] 27)).grownBy w' v.ownBlock)
    (ho : v'.ownBlock = v.ownBlock ∨ v'.ownBlock = some (wo.heap.size + 2)) :
    Reads w' B (vs ++ [.slice (some ⟨wo.heap.size, 0, none⟩) 3 3]) (L ++ [[a, b, c]]) ∧ ∀ g, v'.ownBlock = some g → Off g (vs ++ [.slice (some ⟨wo.heap.size, 0, none⟩) 3 3]) := by
  have r0 : Row (wo.alloc (.cells #[.int .i64 a, .int .i64 b, .int .i64 c] 3)) (some ⟨wo.heap.size, 0, none⟩) (ints [a, b, c]) := row_new wo #[.int .i64 a, .int .i64 b, .int .i64 c] 3 rfl
  have r1 := r0.alloc (.cells #[.slice (some ⟨wo.heap.size, 0, none⟩) 3 3] 27)
  have rd1 : Reads _ B [.slice (some ⟨wo.heap.size, 0, none⟩) 3 3] [[a, b, c]] := Reads.one (c := 3) r1 (fun ad e => by injection e with e; subst e; exact hB) ⟨Nat.le_refl _, by simp [maxLen]⟩
  have rd0 := hrd.below (((Below.refl wo.heap.size wo).alloc (Nat.le_refl _) (.cells #[.int .i64 a, .int .i64 b, .int .i64 c] 3)).alloc (by simp) (.cells #[.slice (some ⟨wo.heap.size, 0, none⟩) 3 3] 27))
  have off1 : ∀ g, g ≠ wo.heap.size → Off g [.slice (some ⟨wo.heap.size, 0, none⟩) 3 3] := fun g hg' i a n c e => by
    have hi : i = 0 := by have := (List.getElem?_eq_some_iff.1 e).1; simpa using this
    subst hi
    simp only [List.getElem?_cons_zero, Option.some.injEq, Value.slice.injEq] at e
    rw [← e.1]
    exact fun h => hg' h.symm
  refine ⟨(rd0.grown hg (fun g e => hoff g e)).append (rd1.grown hg (fun g e => off1 g (by have := (hown.lt g e).2; omega))), fun g e => ?_⟩
  rcases ho with h | h
  · rw [h] at e
    exact (hoff g e).append (off1 g (by have := (hown.lt g e).2; omega))
  · rw [h] at e
    injection e with e
    exact (hrd.off_new hne (by omega)).append (off1 g (by omega))

/-- The eight ways in which the model asks whether a cell is two on. -/
theorem far_cases {w i k : Nat} (hw : 1 ≤ w) :
    (farP w i k = true ∧
      (((((k / w : Nat) : Int) == ((i / w : Nat) : Int)) = true ∧ ((k : Int) - (i : Int) == 2) = true) ∨
       ((((k / w : Nat) : Int) == ((i / w : Nat) : Int)) = true ∧ ((k : Int) - (i : Int) == 2) = false ∧ ((i : Int) - (k : Int) == 2) = true) ∨
       ((((k / w : Nat) : Int) == ((i / w : Nat) : Int)) = false ∧ (((k % w : Nat) : Int) == ((i % w : Nat) : Int)) = true ∧ ((k : Int) - (i : Int) == 2 * (w : Int)) = true) ∨
       ((((k / w : Nat) : Int) == ((i / w : Nat) : Int)) = false ∧ (((k % w : Nat) : Int) == ((i % w : Nat) : Int)) = true ∧ ((k : Int) - (i : Int) == 2 * (w : Int)) = false ∧ ((i : Int) - (k : Int) == 2 * (w : Int)) = true))) ∨
    (farP w i k = false ∧
      (((((k / w : Nat) : Int) == ((i / w : Nat) : Int)) = true ∧ ((k : Int) - (i : Int) == 2) = false ∧ ((i : Int) - (k : Int) == 2) = false ∧ (((k % w : Nat) : Int) == ((i % w : Nat) : Int)) = true ∧ ((k : Int) - (i : Int) == 2 * (w : Int)) = false ∧ ((i : Int) - (k : Int) == 2 * (w : Int)) = false) ∨
       ((((k / w : Nat) : Int) == ((i / w : Nat) : Int)) = true ∧ ((k : Int) - (i : Int) == 2) = false ∧ ((i : Int) - (k : Int) == 2) = false ∧ (((k % w : Nat) : Int) == ((i % w : Nat) : Int)) = false) ∨
       ((((k / w : Nat) : Int) == ((i / w : Nat) : Int)) = false ∧ (((k % w : Nat) : Int) == ((i % w : Nat) : Int)) = true ∧ ((k : Int) - (i : Int) == 2 * (w : Int)) = false ∧ ((i : Int) - (k : Int) == 2 * (w : Int)) = false) ∨
       ((((k / w : Nat) : Int) == ((i / w : Nat) : Int)) = false ∧ (((k % w : Nat) : Int) == ((i % w : Nat) : Int)) = false))) := by
  have hk := Nat.div_add_mod k w
  have hi := Nat.div_add_mod i w
  have q1 : ((k : Int) - (i : Int) == 2) = (k == i + 2) := by rw [Bool.eq_iff_iff, beq_iff_eq, beq_iff_eq]; omega
  have q2 : ((i : Int) - (k : Int) == 2) = (i == k + 2) := by rw [Bool.eq_iff_iff, beq_iff_eq, beq_iff_eq]; omega
  have q3 : ((k : Int) - (i : Int) == 2 * (w : Int)) = (k == i + 2 * w) := by rw [Bool.eq_iff_iff, beq_iff_eq, beq_iff_eq]; omega
  have q4 : ((i : Int) - (k : Int) == 2 * (w : Int)) = (i == k + 2 * w) := by rw [Bool.eq_iff_iff, beq_iff_eq, beq_iff_eq]; omega
  have q5 : (((k / w : Nat) : Int) == ((i / w : Nat) : Int)) = (k / w == i / w) := by rw [Bool.eq_iff_iff, beq_iff_eq, beq_iff_eq]; omega
  have q6 : (((k % w : Nat) : Int) == ((i % w : Nat) : Int)) = (k % w == i % w) := by rw [Bool.eq_iff_iff, beq_iff_eq, beq_iff_eq]; omega
  rw [q1, q2, q3, q4, q5, q6]
  unfold farP
  have hno : (k / w == i / w) = true → (k % w == i % w) = true → (k == i + 2 * w) = false ∧ (i == k + 2 * w) = false := fun h1 h2 => by
    rw [beq_iff_eq] at h1 h2
    have : k = i := by rw [← hk, ← hi, h1, h2]
    subst this
    exact ⟨by rw [beq_eq_false_iff_ne]; omega, by rw [beq_eq_false_iff_ne]; omega⟩
  cases ha : (k / w == i / w) <;> cases hd : (k % w == i % w)
  · simp
  · cases (k == i + 2 * w) <;> cases (i == k + 2 * w) <;> simp
  · cases (k == i + 2) <;> cases (i == k + 2) <;> simp
  · obtain ⟨h1, h2⟩ := hno ha hd
    rw [h1, h2]
    cases (k == i + 2) <;> cases (i == k + 2) <;> simp

theorem jump_rows (w n s i k : Nat) : ∀ y ∈ jumpI (jumpTo w n s i ++ rowTo w s i k), 1 ≤ y.length := fun y hy => by rw [jumpI_row _ y hy]; omega
theorem ok_far {w s i k : Nat} (hf : farP w i k = true) : okJ w s (i, (i + k) / 2, k) = (s.testBit i && s.testBit ((i + k) / 2) && !s.testBit k) := by unfold okJ; simp [hf, Bool.and_assoc]
theorem ok_near {w s i k : Nat} (hf : farP w i k = false) : okJ w s (i, (i + k) / 2, k) = false := by unfold okJ; simp [hf]
set_option maxHeartbeats 8000000 in
set_option maxRecDepth 100000 in
theorem jumps_c (w h s : Nat) (W : World) (hw : 1 ≤ w ∧ w ≤ 5) (hh : 1 ≤ h ∧ h ≤ 5) (h12 : w * h ≤ 12) (hs : s < 4096) :
    Calls Try.prog 27 #[.int .i64 (w : Int), .int .i64 (h : Int), .int .i64 (s : Int)] W (Queens W.heap.size (jumpI (jumpL w (w * h) s)) W) := by
  have HB := hide (fun (j : Nat) (hj : j ≤ 12) w5 => specBit12_c s j (by omega) hj w5)
  have emul : IntKind.i64.wrap ((w : Int) * (h : Int)) = ((w * h : Nat) : Int) := by rw [Int.natCast_mul]; exact IntWalk.i64_in _ (by rw [← Int.natCast_mul]; omega)
  have hw0 : w ≠ 0 := by omega
  have hall := hide (jumpTo_all w (w * h) s)
  generalize w * h = n at *
  obtain ⟨w1, w5⟩ := hw
  clear hh
  obtain ⟨d2, hd2⟩ : ∃ d2 : Int, 2 * (w : Int) = d2 := ⟨_, rfl⟩
  have ed2 : IntKind.i64.wrap (2 * (w : Int)) = d2 := (IntWalk.i64_in _ (by omega)).trans hd2
  have HD2 := hide hd2
  clear hd2
  go_enter Try.func27, Try.ntmps27
  go_wp2_with fail
  go_loopw [7, 8] (fun v x wr => ∃ (i : Nat) (vs : List Value), i ≤ n ∧ x = .int .i64 (i : Int) ∧ wr.ownsRow W.heap.size 27 1 v vs.length vs ∧ Hid (Reads wr W.heap.size vs (jumpI (jumpTo w n s i))) ∧ Hid (∀ g, v.ownBlock = some g → Off g vs) ∧ Below W.heap.size W wr) (fun _ x _ => n - (intOf x).toNat)
  case atStart => exact ⟨0, [], Nat.zero_le _, rfl, World.ownsRow_made W #[] 0 (Nat.le_refl _) (by simp [maxLen]) rfl, Reads.nil _ _, fun g _ i a n c e => by simp at e, (Below.refl _ _).alloc (Nat.le_refl _) _⟩
  case round =>
    obtain ⟨i, vs, hi, rfl, hown, hrd, hoff, hb⟩ := hrel
    obtain ⟨wo, rfl⟩ : ∃ wo : World, wo = wr := ⟨_, rfl⟩
    by_cases hlt : i < n
    · have HSi := hide (jumpTo_succ w n s i)
      go_wp2_with fail
      go_loopw [7, 9] (fun v x wr => ∃ (k : Nat) (vs : List Value), k ≤ n ∧ x = .int .i64 (k : Int) ∧ wr.ownsRow W.heap.size 27 1 v vs.length vs ∧ Hid (Reads wr W.heap.size vs (jumpI (jumpTo w n s i ++ rowTo w s i k))) ∧ Hid (∀ g, v.ownBlock = some g → Off g vs) ∧ Below W.heap.size W wr) (fun _ x _ => n - (intOf x).toNat)
      case atStart => exact ⟨0, vs, Nat.zero_le _, rfl, hown, by rw [show rowTo w s i 0 = [] from rfl, List.append_nil]; exact hrd, hoff, hb⟩
      case round =>
        clear hown hrd hoff hb
        obtain ⟨k, us, hk, rfl, hown, hrd, hoff, hb⟩ := hrel
        obtain ⟨wi, rfl⟩ : ∃ wi : World, wi = wr := ⟨_, rfl⟩
        by_cases hkl : k < n
        · have hyes := hide (fun (h : okJ w s (i, (i + k) / 2, k) = true) => rowTo_yes h)
          have hno := hide (fun (h : okJ w s (i, (i + k) / 2, k) = false) => rowTo_no h)
          have hfar := far_cases (w := w) (i := i) (k := k) w1
          have hof := hide (fun (h : farP w i k = true) => ok_far (s := s) h)
          have hon := hide (fun (h : farP w i k = false) => ok_near (s := s) h)
          have HBi := hide (fun w5 => HB.out i (by omega) w5)
          have HBm := hide (fun w5 => HB.out ((i + k) / 2) (by omega) w5)
          have HBk := hide (fun w5 => HB.out k (by omega) w5)
          have bi := bit_is s i
          have bm := bit_is s ((i + k) / 2)
          have bk := bit_is s k
          have hul : us.length ≤ 1000 := by
            have h1 := hrd.out.1
            rw [jumpI_len, List.length_append] at h1
            have h2 := jumpTo_len w n s i
            have h3 := rowTo_len w s i k
            have h4 : i * n ≤ 12 * 12 := Nat.mul_le_mul (by omega) (by omega)
            omega
          have t1 : Int.tdiv (k : Int) (w : Int) = ((k / w : Nat) : Int) := rfl
          have t2 : Int.tdiv (i : Int) (w : Int) = ((i / w : Nat) : Int) := rfl
          have t3 : Int.tmod (k : Int) (w : Int) = ((k % w : Nat) : Int) := rfl
          have t4 : Int.tmod (i : Int) (w : Int) = ((i % w : Nat) : Int) := rfl
          have u1 := Nat.div_le_self k w
          have u2 := Nat.div_le_self i w
          have u3 := Nat.mod_lt k (show 0 < w by omega)
          have u4 := Nat.mod_lt i (show 0 < w by omega)
          rw [HD2.out] at hfar
          generalize k / w = rk at *
          generalize i / w = ri at *
          generalize k % w = ck at *
          generalize i % w = ci at *
          have e1 : IntKind.i64.wrap (rk : Int) = (rk : Int) := IntWalk.i64_in _ (by omega)
          have e2 : IntKind.i64.wrap (ri : Int) = (ri : Int) := IntWalk.i64_in _ (by omega)
          have e3 : IntKind.i64.wrap (ck : Int) = (ck : Int) := IntWalk.i64_in _ (by omega)
          have e4 : IntKind.i64.wrap (ci : Int) = (ci : Int) := IntWalk.i64_in _ (by omega)
          have e5 : IntKind.i64.wrap ((k : Int) - (i : Int)) = (k : Int) - (i : Int) := IntWalk.i64_in _ (by omega)
          have e6 : IntKind.i64.wrap ((i : Int) - (k : Int)) = (i : Int) - (k : Int) := IntWalk.i64_in _ (by omega)
          obtain ⟨p, hp⟩ : ∃ p, i + k = p := ⟨_, rfl⟩
          rw [hp] at hyes hno hof hon HBm bm
          have e7 : IntKind.i64.wrap ((i : Int) + (k : Int)) = (p : Int) := (IntWalk.i64_in _ (by omega)).trans (by omega)
          have t5 : Int.tdiv (p : Int) 2 = ((p / 2 : Nat) : Int) := rfl
          have u5 : p / 2 ≤ 24 := by omega
          clear hp
          generalize p / 2 = m at *
          have e8 : IntKind.i64.wrap (m : Int) = (m : Int) := IntWalk.i64_in _ (by omega)
          clear u1 u2 u3 u4
          have HK1 := hide (And.intro hlt hkl)
          rcases hfar with ⟨hf, hfar⟩ | ⟨hf, hfar⟩
          · have ho := hof.out hf
            rcases bitN_two s i with h1 | h1 <;> rcases bitN_two s m with h2 | h2 <;> rcases bitN_two s k with h3 | h3
            all_goals
              rw [h1] at HBi bi
              rw [h2] at HBm bm
              rw [h3] at HBk bk
              rw [bi, bm, bk] at ho
              clear hf hof hon bi bm bk h1 h2 h3
            case inr.inr.inl =>
              have hS := hide (hyes.out ho)
              clear ho hyes hno
              rcases hfar with ⟨f1, f2⟩ | ⟨f1, f2, f3⟩ | ⟨f1, f2, f3⟩ | ⟨f1, f2, f3, f4⟩
              all_goals
                go_wp2_with fail
                go_quiet (fail)
                have hownq : (wi.drewN nq).ownsRow W.heap.size 27 1 _ us.length us := hown
                have hrdq : Hid (Reads (wi.drewN nq) W.heap.size us (jumpI (jumpTo w n s i ++ rowTo w s i k))) := hrd
                have hbq := below_drewN hb nq
                clear hown hrd hb
                generalize wi.drewN nq = wq at *
                have own1 := (hownq.alloc (.cells #[.int .i64 (i : Int), .int .i64 (m : Int), .int .i64 (k : Int)] 3)).alloc (.cells #[.slice (some ⟨wq.heap.size, 0, none⟩) 3 3] 27)
                have b1 := (hbq.alloc hbq.size (.cells #[.int .i64 (i : Int), .int .i64 (m : Int), .int .i64 (k : Int)] 3)).alloc (by have := hbq.size; simp; omega) (.cells #[.slice (some ⟨wq.heap.size, 0, none⟩) 3 3] 27)
                have zq := hbq.size
                go_wp2_with fail
                refine (HBi.out _).mono ?_
                rintro e w7 ⟨rfl, rfl⟩
                go_wp2_with fail
                refine (HBm.out _).mono ?_
                rintro e w7 ⟨rfl, rfl⟩
                go_wp2_with fail
                refine (HBk.out _).mono ?_
                rintro e w7 ⟨rfl, rfl⟩
                go_wp2_with ((at_builtin; refine put_own rfl (.tmp 92) (.tmp 100) rfl Try.underlying22 elem_rows rfl own1 rfl (m := 1) (news := [.slice (some ⟨wq.heap.size, 0, none⟩) 3 3]) rfl (row_new _ _ _ (by simp)) (by simp [Value.oneCell']) (by omega) (by omega) b1.size ?_; intro v5 w5' own5 hg5 ho5))
                have HO := reads_push hownq hrdq.out hoff.out (jump_rows w n s i k) zq hg5 (by rcases ho5 with h | h; exact .inl h; exact .inr (by rw [h]; simp))
                refine ⟨⟨k + 1, us ++ [.slice (some ⟨wq.heap.size, 0, none⟩) 3 3], HK1.out.2, by go_num, by rw [List.length_append]; exact own5, ?_, hide HO.2, below_grown b1 b1.size own1 (Nat.le_refl _) hg5⟩, by simp [intOf]; omega⟩
                rw [hS.out, ← List.append_assoc, jumpI_app]
                exact HO.1
            all_goals
              have hS := hide (hno.out ho)
              clear ho hyes hno
              rcases hfar with ⟨f1, f2⟩ | ⟨f1, f2, f3⟩ | ⟨f1, f2, f3⟩ | ⟨f1, f2, f3, f4⟩
              all_goals
                go_wp2_with fail
                go_quiet (fail)
                go_wp2_with fail
                refine (HBi.out _).mono ?_
                rintro e w7 ⟨rfl, rfl⟩
                go_wp2_with fail
                first
                  | exact ⟨⟨k + 1, us, HK1.out.2, by go_num, hown, by rw [hS.out]; exact hrd.out, hoff, below_drewN hb _⟩, by simp [intOf]; omega⟩
                  | (refine (HBm.out _).mono ?_
                     rintro e w7 ⟨rfl, rfl⟩
                     go_wp2_with fail
                     first
                      | exact ⟨⟨k + 1, us, HK1.out.2, by go_num, hown, by rw [hS.out]; exact hrd.out, hoff, below_drewN hb _⟩, by simp [intOf]; omega⟩
                      | (refine (HBk.out _).mono ?_
                         rintro e w7 ⟨rfl, rfl⟩
                         go_wp2_with fail
                         exact ⟨⟨k + 1, us, HK1.out.2, by go_num, hown, by rw [hS.out]; exact hrd.out, hoff, below_drewN hb _⟩, by simp [intOf]; omega⟩))
          · have hS := hide (hno.out (hon.out hf))
            clear hf hyes hno hof hon bi bm bk HBi HBm HBk
            rcases hfar with ⟨f1, f2, f3, f4, f5, f6⟩ | ⟨f1, f2, f3, f4⟩ | ⟨f1, f2, f3, f4⟩ | ⟨f1, f2⟩
            all_goals
              go_wp2_with fail
              go_quiet (fail)
              go_wp2_with fail
              exact ⟨⟨k + 1, us, HK1.out.2, by go_num, hown, by rw [hS.out]; exact hrd.out, hoff, below_drewN hb _⟩, by simp [intOf]; omega⟩
        · obtain rfl : k = n := by omega
          go_wp2_with fail
          exact ⟨⟨i + 1, us, hlt, by go_num, hown, by rw [HSi.out]; exact hrd, hoff, hb⟩, by simp [intOf]; omega⟩
    · obtain rfl : i = n := by omega
      go_wp2_with fail
      go_ret
      exact ⟨_, vs, rfl, hown, by rw [← hall.out]; exact hrd.out, hb⟩

/-- Pegs that are there, as natural numbers. -/
theorem pegS_nat {bc br s : Int} (h : PegS bc br s) : ∃ w h' x : Nat, bc = (w : Int) ∧ br = (h' : Int) ∧ s = (x : Int) ∧ (1 ≤ w ∧ w ≤ 5) ∧ (1 ≤ h' ∧ h' ≤ 5) ∧ w * h' ≤ 12 ∧ x < 2 ^ (w * h') := by
  obtain ⟨⟨⟨h1, h2, h3, h4⟩, h12⟩, s0, s1⟩ := h
  obtain ⟨w, rfl⟩ := Int.eq_ofNat_of_zero_le (show 0 ≤ bc by omega)
  obtain ⟨h, rfl⟩ := Int.eq_ofNat_of_zero_le (show 0 ≤ br by omega)
  obtain ⟨x, rfl⟩ := Int.eq_ofNat_of_zero_le s0
  rw [← Int.natCast_mul] at h12
  rw [← Int.natCast_mul, Int.toNat_natCast] at s1
  have := Nat.two_pow_pos (w * h)
  exact ⟨w, h, x, rfl, rfl, rfl, by omega, by omega, by omega, by omega⟩
theorem pegS_of {w h x : Nat} (hw : 1 ≤ w ∧ w ≤ 5) (hh : 1 ≤ h ∧ h ≤ 5) (h12 : w * h ≤ 12) (hx : x < 2 ^ (w * h)) : PegS (w : Int) (h : Int) (x : Int) := by
  refine ⟨lit12P hw hh h12, by omega, ?_⟩
  rw [← Int.natCast_mul, Int.toNat_natCast]
  omega
def jumpV (bc br s : Int) : List (List Int) := if PegS bc br s then jumpI (jumpL bc.toNat (bc.toNat * br.toNat) s.toNat) else []
theorem jumpV_nat {w h x : Nat} (hw : 1 ≤ w ∧ w ≤ 5) (hh : 1 ≤ h ∧ h ≤ 5) (h12 : w * h ≤ 12) (hx : x < 2 ^ (w * h)) : jumpV w h x = jumpI (jumpL w (w * h) x) := if_pos (pegS_of hw hh h12 hx)
theorem jumpV_bd (bc br s : Int) : (jumpV bc br s).length ≤ 144 ∧ ∀ x ∈ jumpV bc br s, x.length = 3 := by
  unfold jumpV
  split
  · rename_i hP
    obtain ⟨w, h, x, rfl, rfl, rfl, hw, hh, h12, hx⟩ := pegS_nat hP
    simp only [Int.toNat_natCast]
    rw [jumpI_len]
    exact ⟨jump_len x h12, jumpI_row _⟩
  · exact ⟨by simp, fun x hx => absurd hx (by simp)⟩
theorem peg_lt {n x : Nat} (hn : n ≤ 12) (h : x < 2 ^ n) : x < 4096 := Nat.lt_of_lt_of_le h (Nat.pow_le_pow_right (n := 2) (by omega) hn)
theorem specJumpsOf_c (bc br s : Int) (W : World) : Calls Try.prog 7 #[.int .i64 bc, .int .i64 br, .int .i64 s] W (Queens W.heap.size (jumpV bc br s) W) := by
  have HV := hide (fun w5 => validPegs_c bc br s w5)
  by_cases hP : PegS bc br s
  · rw [decide_eq_true hP] at HV
    obtain ⟨w, h, x, rfl, rfl, rfl, hw, hh, h12, hx⟩ := pegS_nat hP
    rw [jumpV_nat hw hh h12 hx]
    have HC := hide (fun w5 => jumps_c w h x w5 hw hh h12 (peg_lt h12 hx))
    generalize jumpI (jumpL w (w * h) x) = L at *
    clear hP hw hh h12 hx
    go_enter Try.func7, Try.ntmps7
    go_wp2_with fail
    refine (HV.out _).mono ?_
    rintro e w1 ⟨rfl, rfl⟩
    go_wp2_with fail
    refine (HC.out _).mono ?_
    rintro e w2 ⟨v2, vs2, rfl, o2, r2, b2⟩
    go_wp2_with fail
    go_ret
    exact ⟨v2, vs2, rfl, o2, r2, b2⟩
  · have hc : jumpV bc br s = [] := by unfold jumpV; rw [if_neg hP]
    rw [decide_eq_false hP] at HV
    rw [hc]
    clear hc hP
    go_enter Try.func7, Try.ntmps7
    go_wp2_with fail
    refine (HV.out _).mono ?_
    rintro e w1 ⟨rfl, rfl⟩
    go_wp2_with fail
    go_ret
    exact ⟨_, [], rfl, World.ownsRow_nil _ _ _ _, Reads.nil _ _, Below.refl _ _⟩
end Go.Proofs.Ytgbbmnnpphkkbaa
