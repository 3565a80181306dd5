
/-
  The walk of the law FnCanStand.
-/
import Derived.Test.YtgcchpabmkdkhaaPQueenA
import Derived.Test.YtgcchpabmkdkhaaDrawQ
import Derived.Test.YtgcchpabmkdkhaaCodeWords
import Derived.Deep.RegionHeld3
namespace Go.Proofs.Ytgcchpabmkdkhaa
open Go.RowKit
set_option linter.unusedVariables false

theorem inl_step {xs : List Int} {k : Nat} {x : Int} (hk : k < xs.length) (h : (xs.take k).contains x = false) (hx : (xs[k]?.getD 0 == x) = false) : (xs.take (k + 1)).contains x = false := by
  rw [take_snoc xs k hk]
  simp only [List.contains_eq_mem, decide_eq_false_iff_not, List.mem_append, List.mem_singleton, not_or] at h ⊢
  exact ⟨h, fun e => by rw [← e] at hx; simp at hx⟩
theorem inl_hit {xs : List Int} {k : Nat} {x : Int} (hk : k < xs.length) (hx : (xs[k]?.getD 0 == x) = true) : xs.contains x = true := by
  rw [List.contains_eq_mem, decide_eq_true_eq]
  have := beq_iff_eq.1 hx
  rw [List.getElem?_eq_getElem hk, Option.getD_some] at this
  rw [← this]
  exact List.getElem_mem hk
set_option maxHeartbeats 400000 in
theorem isIn_same (A : Option Addr) (l : List Int) (c : Nat) (x : Int) (w : World) (hr : Row w A (ints l)) (hm : l.length ≤ maxLen) :
    Calls Try.prog 20 #[.slice A l.length c, .int .i64 x] w fun e w' => e = .returned (.bool (decide (x ∈ l))) ∧ w = w' := by
  unfold maxLen at hm
  go_enter Try.func20, Try.ntmps20
  go_wp2
  go_loop [5] (fun i => ∃ k : Nat, k ≤ l.length ∧ i = .int .i64 k ∧ Hid ((l.take k).contains x = false)) (fun i => l.length - (intOf i).toNat)
  case atStart => exact ⟨0, Nat.zero_le _, rfl, rfl⟩
  case round =>
    obtain ⟨k, hk, rfl, he⟩ := hrel
    by_cases hlt : k < l.length
    · obtain ⟨ad, rfl, hca⟩ := hr.int hlt
      obtain ⟨y, hy⟩ : ∃ y, l[k]?.getD 0 = y := ⟨_, rfl⟩
      rw [hy] at hca
      have Y := hide hy
      clear hy
      cases hb : (y == x) with
      | true =>
        go_wp2
        go_ret
        exact ⟨ret_bool (by rw [← List.contains_eq_mem]; exact (inl_hit hlt (by rw [Y.out]; exact hb)).symm), rfl⟩
      | false =>
        go_wp2
        exact ⟨⟨k + 1, hlt, rfl, inl_step hlt he.out (by rw [Y.out]; exact hb)⟩, by simp [intOf]; omega⟩
    · have hk2 : Hid (k = l.length) := hide (by omega)
      go_wp2
      go_ret
      exact ⟨ret_bool (by have e := he.out; rw [hk2.out, List.take_of_length_le (Nat.le_refl _)] at e; rw [← List.contains_eq_mem]; exact e.symm), rfl⟩
set_option maxHeartbeats 1000000 in
theorem different_c (A : Option Addr) (c : Nat) (l : List Int) (w : World) (hr : Row w A (ints l)) (hm : l.length ≤ 1000) (hcc : l.length ≤ c) (hcm : c ≤ maxLen) (hd : ∀ i, i < l.length → ¬ l[i]?.getD 0 ∈ l.take i) :
    Calls Try.prog 9 #[.slice A l.length c] w (Plain (.int .i64 (l.length : Int)) w) := by
  unfold maxLen at hcm
  have HA := hide (fun (k : Nat) (hk : k < l.length) (A' : Option Addr) (cc : Nat) (w5 : World) (h5 : Row w5 A' (ints (l.take k))) => show Calls Try.prog 20 #[.slice A' k cc, .int .i64 (l[k]?.getD 0)] w5 fun e w' => e = .returned (.bool false) ∧ w5 = w' by
    have := isIn_same A' (l.take k) cc (l[k]?.getD 0) w5 h5 (by rw [List.length_take]; simp [maxLen]; omega)
    rw [decide_eq_false (hd k hk)] at this
    rwa [List.length_take, Nat.min_eq_left (by omega)] at this)
  clear hd
  go_enter Try.func9, Try.ntmps9
  go_wp2_with fail
  go_loopw [3, 4] (fun s i wr => ∃ k : Nat, k ≤ l.length ∧ s = .int .i64 (k : Int) ∧ i = .int .i64 (k : Int) ∧ Below w.heap.size w wr) (fun _ i _ => l.length - (intOf i).toNat)
  case atStart => exact ⟨0, Nat.zero_le _, rfl, rfl, Below.refl _ _⟩
  case round =>
    obtain ⟨k, hk, rfl, rfl, hb⟩ := hrel
    obtain ⟨wo, rfl⟩ : ∃ wo : World, wo = wr := ⟨_, rfl⟩
    by_cases hlt : k < l.length
    · have hrk := (hr.below hb).upto k
      obtain ⟨ad, rfl, hc⟩ := (hr.below hb).int hlt
      have HAk := hide (fun (w5 : World) (h5 : Row w5 (some ad) (ints (l.take k))) => HA.out k hlt (some ad) c w5 h5)
      generalize l[k]?.getD 0 = x at *
      have k0 : (0 : Int) ≤ (k : Int) := by omega
      have k1 : (k : Int) < (l.length : Int) := by omega
      have k2 : (k : Int) ≤ (c : Int) := by omega
      have k3 : (l.length : Int) ≤ (c : Int) := by omega
      have hrd := hrk.drew
      go_wp2_with fail
      go_region_held3 (fun w' => w'.cell? (ad.add k) = some (.int .i64 x)) (go_keep)
        (first
          | (go_at_call 20; refine (HAk.out _ hrd).mono ?_; rintro e w7 ⟨rfl, rfl⟩))
      go_wp2_with fail
      exact ⟨⟨k + 1, hlt, by go_num, by go_num, hb.drew⟩, by simp [intOf]; omega⟩
    · obtain rfl : k = l.length := by omega
      go_wp2_with fail
      go_ret
      exact ⟨rfl, hb⟩

/-! ### Who stands, from the other side, and with fewer -/
def mirror (n : Int) (l : List Int) : List Int := l.map fun x => n - 1 - x
theorem mirror_len (n : Int) (l : List Int) : (mirror n l).length = l.length := by simp [mirror]
theorem mirror_at (n : Int) (l : List Int) (i : Nat) (h : i < l.length) : (mirror n l)[i]?.getD 0 = n - 1 - l[i]?.getD 0 := by
  simp [mirror, List.getElem?_eq_getElem h]
theorem mirror_take (n : Int) (l : List Int) (i : Nat) : (mirror n l).take i = mirror n (l.take i) := by simp [mirror, List.map_take]
theorem mirror_snoc (n : Int) (l : List Int) (k : Nat) (h : k < l.length) : mirror n (l.take (k + 1)) = mirror n (l.take k) ++ [n - 1 - l[k]?.getD 0] := by
  rw [take_snoc l k h]; simp [mirror]
theorem mirror_apart (n : Int) (h : List Int) (c : Int) (ha : apartP h c = true) : apartP (mirror n h) (n - 1 - c) = true := by
  simp only [apartP, List.all_eq_true, List.mem_range, mirror_len] at ha ⊢
  intro i hi
  have := ha i hi
  simp only [withP, mirror_len, mirror_at n h i hi, Bool.not_eq_true', Bool.or_eq_false_iff, beq_eq_false_iff_ne] at this ⊢
  omega
theorem Can.mirror {n : Int} {l : List Int} (h : Can n l) : Can n (mirror n l) := by
  refine ⟨⟨h.1.1, by rw [mirror_len]; exact h.1.2.1, fun i hi => ?_⟩, fun i hi => ?_⟩
  · rw [mirror_len] at hi
    have := h.1.2.2 i hi
    rw [mirror_at n l i hi]; omega
  · rw [mirror_len] at hi
    rw [mirror_at n l i hi, mirror_take]
    exact mirror_apart n _ _ (h.2 i hi)
theorem Can.take {n : Int} {l : List Int} (h : Can n l) (j : Nat) : Can n (l.take j) := by
  refine ⟨⟨h.1.1, by rw [List.length_take]; have := h.1.2.1; omega, fun i hi => ?_⟩, fun i hi => ?_⟩
  · rw [List.length_take] at hi
    rw [List.getElem?_take_of_lt (by omega)]
    exact h.1.2.2 i (by omega)
  · rw [List.length_take] at hi
    rw [List.getElem?_take_of_lt (by omega), List.take_take, Nat.min_eq_left (by omega)]
    exact h.2 i (by omega)
theorem Can.once {n : Int} {l : List Int} (h : Can n l) : ∀ i, i < l.length → ¬ l[i]?.getD 0 ∈ l.take i := fun i hi hm => by
  obtain ⟨j, hj, e⟩ := List.getElem_of_mem hm
  have ha := h.2 i hi
  simp only [apartP, List.all_eq_true, List.mem_range] at ha
  have := ha j hj
  simp only [withP, Bool.not_eq_true', Bool.or_eq_false_iff, beq_eq_false_iff_ne] at this
  exact this.1.1 (by rw [List.getElem?_eq_getElem hj, Option.getD_some]; exact e)

set_option maxHeartbeats 1000000 in
set_option maxRecDepth 100000 in
theorem canStand_w (A : Option Addr) (n c : Nat) (w : World) (h : Code w A n c) : Calls Try.prog 3 #[.slice A n c] w (Plain (.bool true) w) := by
  by_cases hl : 1048576 < (n : Int)
  · go_enter Try.func3, Try.ntmps3
    go_wp2
    go_ret
    exact ⟨rfl, Below.refl _ _⟩
  · have HC := hide (drawCanStand_c A n c w h)
    clear h
    go_enter Try.func3, Try.ntmps3
    go_wp2_with fail
    refine HC.out.mono ?_
    rintro e w1 ⟨k, v, l, rfl, ⟨k0, k7⟩, o1, hl7, b1⟩
    obtain ⟨A1, c1, rfl, n1, m1, _⟩ := own_row o1
    have HS := hide (fun (w5 : World) (h5 : Row w5 A1 (ints l)) => specCanStand_c k A1 c1 l w5 h5 (by omega) n1 m1)
    have HI := hide (fun (w5 : World) (h5 : Row w5 A1 (ints l)) => implCanStand_c k A1 c1 l w5 h5 (by omega) n1 m1)
    have HR := hide (fun (w5 : World) (b5 : Below w1.heap.size w1 w5) => (own_reads o1).below b5)
    by_cases hcan : Can k l
    · rw [decide_eq_true hcan] at HS HI
      have HM := hide (fun (A' : Option Addr) (c' : Nat) (w5 : World) (h5 : Row w5 A' (ints (mirror k l))) (h6 : l.length ≤ c') (h7 : c' ≤ maxLen) => show Calls Try.prog 7 #[.int .i64 k, .slice A' l.length c'] w5 fun e w' => e = .returned (.bool true) ∧ w5 = w' by
        have := implCanStand_c k A' c' (mirror k l) w5 h5 (by rw [mirror_len]; omega) (by rw [mirror_len]; exact h6) h7
        rw [decide_eq_true hcan.mirror] at this
        rwa [mirror_len] at this)
      have HT := hide (fun (j : Nat) (hj : j ≤ l.length) (w5 : World) (h5 : Row w5 A1 (ints l)) => show Calls Try.prog 7 #[.int .i64 k, .slice A1 j c1] w5 fun e w' => e = .returned (.bool true) ∧ w5 = w' by
        have := implCanStand_c k A1 c1 (l.take j) w5 (h5.upto j) (by rw [List.length_take]; omega) (by rw [List.length_take]; omega) m1
        rw [decide_eq_true (hcan.take j)] at this
        rwa [List.length_take, Nat.min_eq_left hj] at this)
      have HD := hide (fun (w5 : World) (h5 : Row w5 A1 (ints l)) => different_c A1 c1 l w5 h5 (by omega) n1 m1 hcan.once)
      have hlk := hcan.1
      have hm1 : c1 ≤ 9223372036854775807 := by unfold maxLen at m1; omega
      have hent := hide hcan.1.2.2
      have HMS := hide (fun j hj => mirror_snoc k l j hj)
      have HM0 : Hid (mirror k (l.take 0) = []) := rfl
      have HMA : Hid (mirror k (l.take l.length) = mirror k l) := by show _ = _; rw [List.take_of_length_le (Nat.le_refl _)]
      have HML := hide (fun j => mirror_len k (l.take j))
      obtain ⟨⟨hk1, hk6⟩, hlk2, _⟩ := hlk
      clear hcan o1
      go_wp2_with fail
      refine (HI.out _ (HR.out _ (Below.refl _ _))).mono ?_
      rintro e w2 ⟨rfl, rfl⟩
      go_wp2_with fail
      refine (HS.out _ (HR.out _ (Below.refl _ _))).mono ?_
      rintro e w3 ⟨rfl, b3⟩
      have z3 := b3.size
      go_wp2_with fail
      go_loopw [6, 7] (fun v i wr => ∃ j : Nat, j ≤ l.length ∧ i = .int .i64 (j : Int) ∧ wr.ownsRow w1.heap.size 3 1 v j (ints (mirror k (l.take j))) ∧ Below w1.heap.size w1 wr) (fun _ i _ => l.length - (intOf i).toNat)
      case atStart => exact ⟨0, Nat.zero_le _, rfl, World.ownsRow_made w3 #[] 0 z3 (by simp [maxLen]) rfl, b3.alloc z3 _⟩
      case round =>
        obtain ⟨j, hj, rfl, hown, hb⟩ := hrel
        obtain ⟨wo, rfl⟩ : ∃ wo : World, wo = wr := ⟨_, rfl⟩
        obtain ⟨Av, cv, rfl, nv, mv, rv, _⟩ := own_row hown
        by_cases hlt : j < l.length
        · obtain ⟨ad, rfl, hca⟩ := (HR.out _ hb).int hlt
          obtain ⟨x0, x1⟩ := hent.out j hlt
          have HS2 := hide (HMS.out j hlt)
          generalize l[j]?.getD 0 = x at *
          have j0 : (0 : Int) ≤ (j : Int) := by omega
          have j1 : (j : Int) < (l.length : Int) := by omega
          have e1 : IntKind.i64.wrap (k - 1) = k - 1 := IntWalk.i64_in _ (by omega)
          have e2 : IntKind.i64.wrap (k - 1 - x) = k - 1 - x := IntWalk.i64_in _ (by omega)
          have own2 := hown.alloc (.cells #[.int .i64 (k - 1 - x)] 3)
          have b2 := hb.alloc hb.size (.cells #[.int .i64 (k - 1 - x)] 3)
          clear rv
          go_wp2_with ((at_builtin; refine put_own rfl (.tmp 41) (.tmp 49) rfl Try.underlying23 elem_int' rfl own2 rfl (m := 1) (news := [.int .i64 (k - 1 - x)]) rfl (row_new _ _ _ rfl) (by simp [Value.oneCell']) (by omega) (by omega) b2.size ?_; intro v5 w5 own5 hg5 ho5))
          have B5 := hide (below_grown b2 b2.size own2 (Nat.le_refl _) hg5)
          have O5 := hide (show w5.ownsRow w1.heap.size 3 1 v5 (j + 1) (ints (mirror k (l.take (j + 1)))) by rw [HS2.out]; simpa [ints] using own5)
          clear own5 hg5
          exact ⟨⟨j + 1, hlt, by go_num, O5.out, B5.out⟩, by simp [intOf]; omega⟩
        · obtain rfl : j = l.length := by omega
          rw [HMA.out] at rv
          have hrw := HR.out _ hb
          have HMo := hide (HM.out Av cv wo rv nv mv)
          have HDo := hide (HD.out wo hrw)
          have HTo := hide (fun j hj => HT.out j hj wo hrw)
          clear hown rv
          by_cases hz : l.length = 0
          · obtain rfl : l = [] := List.eq_nil_of_length_eq_zero hz
            clear hz
            go_wp2_with fail
            refine HMo.out.mono ?_
            rintro e w4 ⟨rfl, rfl⟩
            go_wp2_with fail
            refine HDo.out.mono ?_
            rintro e w5 ⟨rfl, b5⟩
            have B5 := hide (below_then b1 b1.size (below_then hb hb.size b5))
            clear b5
            go_wp2_with fail
            go_ret
            exact ⟨rfl, B5.out⟩
          · obtain ⟨q, hq⟩ : ∃ q, l.length = q + 1 := ⟨l.length - 1, by omega⟩
            have hz0 : ((l.length : Int) == 0) = false := by rw [beq_eq_false_iff_ne]; omega
            have HTq := hide (HTo.out q (by omega))
            have e3 : IntKind.i64.wrap ((l.length : Int) - 1) = (q : Int) := by rw [IntWalk.i64_in _ (by omega)]; omega
            have q0 : (0 : Int) ≤ (q : Int) := by omega
            have q1 : (q : Int) ≤ (c1 : Int) := by omega
            have q2 : (q : Int) ≤ (l.length : Int) := by omega
            clear hq
            go_wp2_with fail
            refine HMo.out.mono ?_
            rintro e w4 ⟨rfl, rfl⟩
            go_wp2_with fail
            refine HTq.out.mono ?_
            rintro e w4 ⟨rfl, rfl⟩
            go_wp2_with fail
            refine HDo.out.mono ?_
            rintro e w5 ⟨rfl, b5⟩
            have B5 := hide (below_then b1 b1.size (below_then hb hb.size b5))
            clear b5
            go_wp2_with fail
            go_ret
            exact ⟨rfl, B5.out⟩
    · rw [decide_eq_false hcan] at HS HI
      clear hcan o1
      go_wp2_with fail
      refine (HI.out _ (HR.out _ (Below.refl _ _))).mono ?_
      rintro e w2 ⟨rfl, rfl⟩
      go_wp2_with fail
      refine (HS.out _ (HR.out _ (Below.refl _ _))).mono ?_
      rintro e w3 ⟨rfl, b3⟩
      have r3 := HR.out _ b3
      go_wp2_with fail
      refine (HS.out _ r3).mono ?_
      rintro e w4 ⟨rfl, b4⟩
      have b14 := below_then b3 b3.size b4
      have bw4 := below_then b1 b1.size b14
      clear r3 b3 b4 b14
      go_wp2_with fail
      go_ret
      exact ⟨rfl, bw4⟩
end Go.Proofs.Ytgcchpabmkdkhaa
