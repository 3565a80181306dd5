
/-
  The walk of the law FnWalksReach, off the contracts of the program's functions (given).
-/
import Derived.Test.YtoapmmmmdfmaeaaLawRA
namespace Go.Proofs.Ytoapmmmmdfmaeaa
open Go.RowKit
set_option linter.unusedVariables false

theorem bfs_lenR {bc br : Int} {far : Bool} {ss : List (Int × Int)} {N : Nat} (hin : ∀ x, ∀ y ∈ reachP bc br far [] x ss, 0 ≤ y ∧ y < (N : Int)) : ∀ (f : Nat) (st : List Int × List Int) (i : Nat), Met N st → (bfsP bc br far ss f st i).length = N
  | 0, st, i, h => h.len
  | f + 1, st, i, h => by
    by_cases hi : i < st.2.length
    · rw [bfs_more _ _ _ _ _ _ _ hi]
      refine bfs_lenR hin f _ _ (fold_met _ _ (hin _) h ?_).1
      rw [List.getElem?_eq_getElem hi]
      exact List.getElem_mem hi
    · rw [bfs_end _ _ _ _ _ _ _ hi]
      exact h.len
theorem moves_lenN {bc br : Int} (h1 : 1 ≤ bc) (h2 : bc ≤ 5) (h3 : 1 ≤ br) (h4 : br ≤ 5) (far : Bool) (ss : List (Int × Int)) {N : Nat} (hN : bc * br = (N : Int)) (c : Nat) (hc : c < N) : (movesP bc br far ss (c : Int)).length = N := by
  unfold movesP
  rw [hN]
  refine bfs_lenR (fun x y hy => ?_) 26 _ 0 (Met.start (by omega) (by omega))
  unfold reachP at hy
  rw [List.mem_mergeSort] at hy
  have := cells_in h1 h2 h3 h4 y hy
  rwa [hN] at this
theorem begin_law {a b n : Nat} {s : List UInt8} {ss : List (Int × Int)} {far : Bool} {i k : Nat} (hS : Small (a : Int) (b : Int)) (hkk : kindL s = some (ss, far)) (hab : a * b = n) (hi : i < n) (hk : k < n) :
    movesFromP (a : Int) (b : Int) s (i : Int) = movesP (a : Int) (b : Int) far ss (i : Int) ∧ (movesP (a : Int) (b : Int) far ss (i : Int)).length = n ∧
      ∀ m : Nat, m ≤ 8 → (((movesP (a : Int) (b : Int) far ss (i : Int))[k]?.getD 0 < 0 ∨ (m : Int) < (movesP (a : Int) (b : Int) far ss (i : Int))[k]?.getD 0) → walkN (setsP (a : Int) (b : Int) far ss) i m k = 0) ∧ ((movesP (a : Int) (b : Int) far ss (i : Int))[k]?.getD 0 = (m : Int) → walkN (setsP (a : Int) (b : Int) far ss) i m k ≠ 0) := by
  obtain ⟨a', b', n', hW⟩ := walk_of hS hkk
  have h1 : a' = a := by have := hW.eqc; omega
  have h2 : b' = b := by have := hW.eqr; omega
  subst h1 h2
  obtain ⟨s1, s2, s3, s4, s5⟩ := hS
  have hz : (a' : Int) * (b' : Int) = (n : Int) := by rw [← Int.natCast_mul, hab]
  have hlen := moves_lenN s1 s2 s3 s4 far ss hz i hi
  refine ⟨?_, hlen, fun m hm => ?_⟩
  · unfold movesFromP
    rw [hkk]
    simp only
    rw [if_pos ⟨⟨s1, s2, s3, s4⟩, by omega, by omega⟩]
  · have hb := begin_is hW.begins (i := i) (k := k) (m := m) (by omega) (by omega) hm
    simp only at hb
    have hm' := moves_T s1 s2 s3 s4 far ss hz i hi
    rw [hab] at hb
    rw [← hm'] at hb
    obtain ⟨D, hD⟩ : ∃ D, movesP (a' : Int) (b' : Int) far ss (i : Int) = D := ⟨_, rfl⟩
    rw [hD] at hb hlen ⊢
    have hg : D[k]?.getD 7 = D[k]?.getD 0 := by rw [List.getElem?_eq_getElem (by omega)]; rfl
    rw [hg] at hb
    refine ⟨fun h => ?_, fun h => ?_⟩
    · rwa [if_pos h] at hb
    · rw [if_neg (by omega), if_pos h] at hb
      exact hb
set_option maxHeartbeats 4000000 in
set_option maxRecDepth 100000 in
theorem walksReach_w (HI : ∀ (bc br : Int) (s : ByteArray) (i k m : Int) (w5 : World), Calls Try.prog 8 #[.int .i64 bc, .int .i64 br, .string s, .int .i64 i, .int .i64 k, .int .i64 m] w5 (Plain (.int .i64 (walkCV bc br s.toList i k m)) w5))
    (HM : ∀ (bc br cell : Int) (s : ByteArray) (w5 : World), Calls Try.prog 11 #[.int .i64 bc, .int .i64 br, .string s, .int .i64 cell] w5 (Owns 3 1 (movesFromP bc br s.toList cell).length (ints (movesFromP bc br s.toList cell)) w5))
    (A : Option Addr) (n c : Nat) (w : World) (h : Code w A n c) : Calls Try.prog 5 #[.slice A n c] w (Plain (.bool true) w) := by
  by_cases hl : 1048576 < (n : Int)
  · go_enter Try.func5, Try.ntmps5
    go_wp2
    go_ret
    exact ⟨rfl, Below.refl _ _⟩
  · have HC := hide (drawWalkCount_c A n c w h)
    have HI := hide HI
    have HM := hide HM
    clear h
    go_enter Try.func5, Try.ntmps5
    go_wp2_with fail
    refine HC.out.mono ?_
    rintro e w1 ⟨bc, br, i, k, m, s, rfl, -, -, -, -, -, -, b1⟩
    have HI1 := hide (fun w5 => HI.out bc br s i k m w5)
    have HS1 := hide (fun w5 => specWalkCount_c bc br s i k m w5)
    clear HC
    by_cases hex : ∃ (a b n i' k' m' : Nat) (ss : List (Int × Int)) (far : Bool), bc = (a : Int) ∧ br = (b : Int) ∧ i = (i' : Int) ∧ k = (k' : Int) ∧ m = (m' : Int) ∧ smallK bc br s.toList = some (ss, far) ∧ a * b = n ∧ i' < n ∧ k' < n ∧ m' ≤ 8 ∧ Small bc br ∧ kindL s.toList = some (ss, far)
    · obtain ⟨a, b, N, i, k, m, ss, far, rfl, rfl, rfl, rfl, rfl, hsm, hab, hi, hk, hm, hS, hkk⟩ := hex
      obtain ⟨q1, q2, q3⟩ := begin_law hS hkk hab hi hk
      rw [walkCV_is hsm hab hi hk hm] at HI1 HS1
      have HIX := hide (fun (m' : Nat) (hm' : m' ≤ 8) w5 => show Calls Try.prog _ #[.int .i64 (a : Int), .int .i64 (b : Int), .string s, .int .i64 (i : Int), .int .i64 (k : Int), .int .i64 (m' : Int)] w5 (Plain (.int .i64 (walkN (setsP (a : Int) (b : Int) far ss) i m' k : Int)) w5) by
        have := HI.out (a : Int) (b : Int) s (i : Int) (k : Int) (m' : Int) w5
        rwa [walkCV_is hsm hab hi hk hm'] at this)
      have HMX := hide (fun w5 => HM.out (a : Int) (b : Int) (i : Int) s w5)
      rw [q1] at HMX
      obtain ⟨F, hF⟩ : ∃ F : Nat → Nat, (fun m' => walkN (setsP (a : Int) (b : Int) far ss) i m' k) = F := ⟨_, rfl⟩
      have hFm : ∀ m', walkN (setsP (a : Int) (b : Int) far ss) i m' k = F m' := fun m' => by rw [← hF]
      simp only [hFm] at HI1 HS1 HIX q3
      obtain ⟨D, hD⟩ : ∃ D, movesP (a : Int) (b : Int) far ss (i : Int) = D := ⟨_, rfl⟩
      rw [hD] at HMX q2 q3
      rw [q2] at HMX
      have HQ3 := hide q3
      have HQ2 := hide q2
      clear HI HM hsm hab hS hkk q1 q2 q3 hF hFm hD hi
      obtain ⟨v, hv⟩ : ∃ v, F m = v := ⟨_, rfl⟩
      rw [hv] at HI1 HS1
      have hvv : ((v : Int) != (v : Int)) = false := by simp
      have hv0 : ¬ ((v : Int) < 0) := by omega
      obtain ⟨M1, hM1⟩ : ∃ M1 : Int, (m : Int) = M1 := ⟨_, rfl⟩
      rw [hM1] at HI1 HS1
      rw [hM1]
      clear hM1 hv hm
      have k0 : (0 : Int) ≤ (k : Int) := by omega
      have k1 : (k : Int) < (N : Int) := by omega
      have HKN := hide hk
      go_wp2_with fail
      refine (HI1.out _).mono ?_
      rintro e w2 ⟨rfl, b2⟩
      have b12 := below_then b1 b1.size b2
      go_wp2_with fail
      refine (HS1.out _).mono ?_
      rintro e w3 ⟨rfl, b3⟩
      have b13 := below_then b12 b12.size b3
      go_wp2_with fail
      refine (HI1.out _).mono ?_
      rintro e w4 ⟨rfl, b4⟩
      have b14 := below_then b13 b13.size b4
      go_wp2_with fail
      refine (HMX.out _).mono ?_
      rintro e w5 ⟨v5, rfl, o5, b5⟩
      obtain ⟨A5, c5, rfl, _⟩ := own_row o5
      have b15 := below_then b14 b14.size b5
      obtain ⟨ad, rfl, hck⟩ := (own_reads o5).int (k := k) (by rw [HQ2.out]; exact HKN.out)
      clear o5 b1 b2 b3 b4 b5 b12 b13 b14 HI1 HS1 HMX HQ2
      generalize D[k]?.getD 0 = d at *
      go_wp2_with fail
      go_loopw [10] (fun jv wr => ∃ j : Nat, j ≤ 9 ∧ jv = .int .i64 (j : Int) ∧ Below w.heap.size w wr) (fun jv _ => 9 - (intOf jv).toNat)
      case atStart => exact ⟨0, by omega, rfl, b15⟩
      case round =>
        clear hck b15
        obtain ⟨j, hj, rfl, hb⟩ := hrel
        obtain ⟨wo, rfl⟩ : ∃ wo : World, wo = wr := ⟨_, rfl⟩
        by_cases hjl : j ≤ 8
        · have HX := hide (HIX.out j hjl)
          obtain ⟨g1, g2⟩ := HQ3.out j hjl
          obtain ⟨c, hc⟩ : ∃ c, F j = c := ⟨_, rfl⟩
          rw [hc] at HX g1 g2
          have HJ := hide hjl
          have j8 : (j : Int) ≤ 8 := by omega
          clear hc HIX HQ3
          by_cases d0 : d < 0
          · have hz := g1 (.inl d0)
            subst hz
            clear g1 g2
            go_wp2_with fail
            refine (HX.out _).mono ?_
            rintro e w6 ⟨rfl, b6⟩
            have hb6 := below_then hb hb.size b6
            go_wp2_with fail
            exact ⟨⟨j + 1, by have := HJ.out; omega, by go_num, hb6⟩, by have := HJ.out; simp [intOf]; omega⟩
          · by_cases d1 : (j : Int) < d
            · have hz := g1 (.inr d1)
              subst hz
              clear g1 g2
              go_wp2_with fail
              refine (HX.out _).mono ?_
              rintro e w6 ⟨rfl, b6⟩
              have hb6 := below_then hb hb.size b6
              go_wp2_with fail
              exact ⟨⟨j + 1, by have := HJ.out; omega, by go_num, hb6⟩, by have := HJ.out; simp [intOf]; omega⟩
            · by_cases d2 : d = (j : Int)
              · have hz := g2 d2
                have hcz : ((c : Int) == 0) = false := by rw [beq_eq_false_iff_ne]; omega
                clear g1 g2 hz
                subst d2
                go_wp2_with fail
                refine (HX.out _).mono ?_
                rintro e w6 ⟨rfl, b6⟩
                have hb6 := below_then hb hb.size b6
                go_wp2_with fail
                exact ⟨⟨j + 1, by have := HJ.out; omega, by go_num, hb6⟩, by have := HJ.out; simp [intOf]; omega⟩
              · have hdj : ((j : Int) == d) = false := by rw [beq_eq_false_iff_ne]; omega
                clear g1 g2 d2
                go_wp2_with fail
                refine (HX.out _).mono ?_
                rintro e w6 ⟨rfl, b6⟩
                have hb6 := below_then hb hb.size b6
                go_wp2_with fail
                exact ⟨⟨j + 1, by have := HJ.out; omega, by go_num, hb6⟩, by have := HJ.out; simp [intOf]; omega⟩
        · obtain rfl : j = 9 := by omega
          go_wp2_with fail
          go_ret
          exact ⟨rfl, hb⟩
    · rw [walkCV_no hex] at HI1 HS1
      clear hex HI HM
      go_wp2_with fail
      refine (HI1.out _).mono ?_
      rintro e w2 ⟨rfl, b2⟩
      have b12 := below_then b1 b1.size b2
      go_wp2_with fail
      refine (HS1.out _).mono ?_
      rintro e w3 ⟨rfl, b3⟩
      have b13 := below_then b12 b12.size b3
      go_wp2_with fail
      refine (HI1.out _).mono ?_
      rintro e w4 ⟨rfl, b4⟩
      have b14 := below_then b13 b13.size b4
      go_wp2_with fail
      go_ret
      exact ⟨rfl, b14⟩
end Go.Proofs.Ytoapmmmmdfmaeaa
