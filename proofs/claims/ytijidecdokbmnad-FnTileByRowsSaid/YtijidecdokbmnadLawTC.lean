
/-
  The walk of the law FnTileByRows, whatever the program's contract is proved by.
-/
import Derived.Test.YtijidecdokbmnadLawTA
import Derived.Test.YtijidecdokbmnadTileU
import Derived.Test.YtijidecdokbmnadTileT
import Derived.BigQuiet
namespace Go.Proofs.Ytijidecdokbmnad
open Go.RowKit
set_option linter.unusedVariables false

theorem own_keepN {w : World} {base e size n : Nat} {v : Value} {xs : List Value} (h : w.ownsRow base e size v n xs) (k : Nat) : (w.drewN k).ownsRow base e size v n xs := h

set_option maxHeartbeats 400000 in
theorem isIn_s (A : Option Addr) (l : List Int) (c : Nat) (x : Int) (w : World) (hr : Row w A (ints l)) (hm : l.length ≤ maxLen) :
    Calls Try.prog 10 #[.slice A l.length c, .int .i64 x] w fun e w' => e = .returned (.bool (l.contains x)) ∧ w = w' := by
  unfold maxLen at hm
  have HR := hide hr
  clear hr
  go_enter Try.func10, Try.ntmps10
  go_wp2_with fail
  go_loopw [5] (fun i wr => ∃ k : Nat, k ≤ l.length ∧ i = .int .i64 k ∧ Hid ((l.take k).contains x = false) ∧ w = wr) (fun i _ => l.length - (intOf i).toNat)
  case atStart => exact ⟨0, Nat.zero_le _, rfl, rfl, rfl⟩
  case round =>
    obtain ⟨k, hk, rfl, he, rfl⟩ := hrel
    by_cases hlt : k < l.length
    · obtain ⟨ad, rfl, hca⟩ := HR.out.int hlt
      obtain ⟨y, hy⟩ : ∃ y, l[k]?.getD 0 = y := ⟨_, rfl⟩
      rw [hy] at hca
      have Y := hide hy
      clear hy
      cases hb : (y == x) with
      | true =>
        have HT := hide (show l.contains x = true by
          have h1 : y = x := beq_iff_eq.1 hb
          rw [List.contains_iff_mem, ← h1, ← Y.out, List.getElem?_eq_getElem hlt, Option.getD_some]
          exact List.getElem_mem hlt)
        go_wp2_with fail
        go_ret
        exact ⟨by rw [HT.out]; rfl, rfl⟩
      | false =>
        have HT := hide (show (l.take (k + 1)).contains x = false by
          rw [take_snoc _ _ hlt, ← Bool.not_eq_true, List.contains_iff_mem, List.mem_append, List.mem_singleton, Y.out]
          have h1 := he.out
          rw [← Bool.not_eq_true, List.contains_iff_mem] at h1
          rintro (h | h)
          · exact h1 h
          · rw [h] at hb; simp at hb)
        go_wp2_with fail
        exact ⟨⟨k + 1, hlt, rfl, HT.out, trivial⟩, by simp [intOf]; omega⟩
    · obtain rfl : k = l.length := by omega
      have HT := hide (show l.contains x = false by have := he.out; rwa [List.take_length] at this)
      go_wp2_with fail
      go_ret
      exact ⟨by rw [HT.out]; rfl, rfl⟩

set_option maxHeartbeats 2000000 in
set_option maxRecDepth 100000 in
theorem tileByRows_w (HI : HoleFn 7) (A : Option Addr) (n c : Nat) (w : World) (h : Code w A n c) : Calls Try.prog 4 #[.slice A n c] w (Plain (.bool true) w) := by
  by_cases hl : 1048576 < (n : Int)
  · go_enter Try.func4, Try.ntmps4
    go_wp2
    go_ret
    exact ⟨rfl, Below.refl _ _⟩
  · have HC := hide (drawTileByRows_c A n c w h)
    clear h
    have HII := hide HI
    clear HI
    go_enter Try.func4, Try.ntmps4
    go_wp2_with fail
    refine HC.out.mono ?_
    rintro e w1 ⟨bc, br, v, hs, rfl, hx, hy, hown, hhl, b1⟩
    obtain ⟨Ah, ch, rfl, _⟩ := own_row hown
    have hm : hs.length ≤ maxLen := by unfold maxLen; omega
    have HRH := hide (own_reads hown)
    have HIs := hide (fun (w5 : World) (h5 : Below w1.heap.size w1 w5) => HII.out bc br Ah ch hs w5 (HRH.out.below h5) hm)
    have HSs := hide (fun (w5 : World) (h5 : Below w1.heap.size w1 w5) => tileByRows_c bc br Ah ch hs w5 (HRH.out.below h5) hm)
    have zb := b1.size
    by_cases hH : Holes bc br hs
    · obtain ⟨⟨h1, h2, h3, h4⟩, ha⟩ := id hH
      obtain ⟨x, rfl⟩ := Int.eq_ofNat_of_zero_le (show 0 ≤ bc by omega)
      obtain ⟨y, rfl⟩ := Int.eq_ofNat_of_zero_le (show 0 ≤ br by omega)
      have hxx : 1 ≤ x ∧ x ≤ 5 := by omega
      have hyy : 1 ≤ y ∧ y ≤ 5 := by omega
      have hX : coversP (x : Int) (y : Int) hs = ((tileT x (x * y) (x * y) (inL hs) : Nat) : Int) := by unfold coversP; rw [if_pos hH]; rfl
      have hmem := asc_mem ha
      rw [← Int.natCast_mul] at hmem
      obtain ⟨s1, s2⟩ := turn_same hxx hyy (asc_nodup ha) hmem
      have hasc := turnL_asc (w := x) (h := y) (hs := hs) (n := ((y : Int) * (x : Int))) (x * y) (by rw [← Int.natCast_mul, Nat.mul_comm]; omega)
      have hH2 : Holes (y : Int) (x : Int) (turnL x y hs (x * y)) := ⟨⟨h3, h4, h1, h2⟩, hasc⟩
      have hX2 : coversP (y : Int) (x : Int) (turnL x y hs (x * y)) = ((tileT x (x * y) (x * y) (inL hs) : Nat) : Int) := by
        unfold coversP
        rw [if_pos hH2, ← s1]
        rfl
      have hn25 : x * y ≤ 25 := Nat.mul_le_mul hxx.2 hyy.2
      have emul : IntKind.i64.wrap ((x : Int) * (y : Int)) = ((x * y : Nat) : Int) := by rw [Int.natCast_mul]; exact IntWalk.i64_in _ (by rw [← Int.natCast_mul]; omega)
      have HTs := hide (fun (A : Option Addr) (c : Nat) (w5 : World) (h5 : Row w5 A (ints (turnL x y hs (x * y)))) => HII.out (y : Int) (x : Int) A c (turnL x y hs (x * y)) w5 h5 (by rw [s2]; exact hm))
      rw [hX] at HIs HSs
      rw [hX2] at HTs
      have s2i : (((turnL x y hs (x * y)).length : Int) == (hs.length : Int)) = true := by rw [s2]; simp
      have S2I := hide s2i
      clear s2i
      have HLN := hide s2
      have HTL := hide (fun k => turnL_len x y hs k)
      have HSN := hide (fun k => turnL_snoc x y hs k)
      have hlen := hhl
      clear hX hX2 hH hH2 ha hmem hasc s1 s2 h1 h2 h3 h4
      obtain ⟨y1, y5⟩ := hyy
      obtain ⟨x1, x5⟩ := hxx
      have hy0 : (y : Int) ≠ 0 := by omega
      have hy0n : ¬ y = 0 := by omega
      generalize tileT x (x * y) (x * y) (inL hs) = X at *
      have hXX : ((X : Int) != (X : Int)) = false := by simp
      have X0 : (0 : Int) ≤ (X : Int) := by omega
      generalize x * y = N' at *
      clear hown
      go_wp2_with fail
      refine (HIs.out _ (Below.refl _ _)).mono ?_
      rintro e w2 ⟨rfl, b2⟩
      go_wp2_with fail
      refine (HSs.out _ b2).mono ?_
      rintro e w3 ⟨rfl, b3⟩
      have b3 := below_then b2 b2.size b3
      have z3 := b3.size
      go_wp2_with fail
      go_loopw [7, 8] (fun o i wr => ∃ k : Nat, k ≤ N' ∧ i = .int .i64 (k : Int) ∧ wr.ownsRow w3.heap.size 3 1 o (turnL x y hs k).length (ints (turnL x y hs k)) ∧ Below w1.heap.size w1 wr ∧ w3.heap.size ≤ wr.heap.size) (fun _ i _ => N' - (intOf i).toNat)
      case atStart => exact ⟨0, Nat.zero_le _, rfl, World.ownsRow_made w3 #[] 0 (Nat.le_refl _) (by simp [maxLen]) rfl, b3.alloc z3 _, by simp⟩
      case round =>
        obtain ⟨k, hk, rfl, hown, hb, hz⟩ := hrel
        obtain ⟨wo, rfl⟩ : ∃ wo : World, wo = wr := ⟨_, rfl⟩
        have zo := hb.size
        obtain ⟨Ao, co, rfl, _⟩ := own_row hown
        by_cases hlt : k < N'
        · have t1 : Int.tmod (k : Int) (y : Int) = ((k % y : Nat) : Int) := rfl
          have t2 : Int.tdiv (k : Int) (y : Int) = ((k / y : Nat) : Int) := rfl
          have t1' : (k : Int) % (y : Int) = ((k % y : Nat) : Int) := rfl
          have t2' : (k : Int) / (y : Int) = ((k / y : Nat) : Int) := rfl
          have hmk : k % y < y := Nat.mod_lt _ (by omega)
          have hdk : k / y ≤ k := Nat.div_le_self _ _
          have htc : turnC y x k = k % y * x + k / y := rfl
          have hsn := HSN.out k
          rw [htc] at hsn
          have hpm : k % y * x ≤ 4 * 5 := Nat.mul_le_mul (by omega) x5
          generalize k % y = mk at *
          generalize k / y = dk at *
          have e1 : IntKind.i64.wrap (mk : Int) = (mk : Int) := IntWalk.i64_in _ (by omega)
          have e2 : IntKind.i64.wrap (dk : Int) = (dk : Int) := IntWalk.i64_in _ (by omega)
          have e3 : IntKind.i64.wrap ((mk : Int) * (x : Int)) = ((mk * x : Nat) : Int) := by rw [Int.natCast_mul]; exact IntWalk.i64_in _ (by rw [← Int.natCast_mul]; omega)
          generalize mk * x = pm at *
          have e4 : IntKind.i64.wrap ((pm : Int) + (dk : Int)) = ((pm + dk : Nat) : Int) := (IntWalk.i64_in _ (by omega)).trans (by omega)
          have HIN := hide (fun (w5 : World) (h5 : Below w1.heap.size w1 w5) => show Calls Try.prog 10 #[.slice Ah hs.length ch, .int .i64 ((pm + dk : Nat) : Int)] w5 fun e w' => e = .returned (.bool (hs.contains ((pm + dk : Nat) : Int))) ∧ w' = w5 from (isIn_s Ah hs ch ((pm + dk : Nat) : Int) w5 (HRH.out.below h5) hm).mono fun e w' h => ⟨h.1, h.2.symm⟩)
          have hct : hs.contains ((pm + dk : Nat) : Int) = inL hs (pm + dk) := rfl
          rw [hct] at HIN
          clear hct htc
          generalize inL hs (pm + dk) = b at *
          generalize pm + dk = tc at *
          have HSK := hide hsn
          have HO := hide hown
          clear hsn hown
          have hll := HTL.out k
          cases b with
          | true =>
            go_wp2_with fail
            go_quiet ((go_at_call 10; exact Calls.quiet_of_same (HIN.out _ (below_drewN hb _))))
            go_wp2_with ((at_builtin; refine put_own rfl (.tmp 57) (.tmp 59) rfl Try.underlying22 elem_int0 rfl ((own_keepN HO.out _).alloc _) rfl (m := 1) (news := [.int .i64 (k : Int)]) rfl (row_new _ _ _ rfl) (by simp [Value.oneCell']) (by omega) (by omega) (by simp; omega) ?_; intro v9 w9 own9 hg9 ho9))
            go_roundw
            case rel =>
              refine ⟨k + 1, hlt, rfl, ?_, below_grown ((below_drewN hb _).alloc zo _) (by simp; omega) ((own_keepN HO.out _).alloc _) z3 hg9, ?_⟩
              · rw [HSK.out]
                simpa [ints] using own9
              · have := hg9.size
                simp at this
                omega
            case measure => simp [intOf]; omega
          | false =>
            go_wp2_with fail
            go_quiet ((go_at_call 10; exact Calls.quiet_of_same (HIN.out _ (below_drewN hb _))))
            go_wp2_with fail
            exact ⟨⟨k + 1, hlt, rfl, by rw [HSK.out]; simpa using own_keepN HO.out _, below_drewN hb _, hz⟩, by simp [intOf]; omega⟩
        · obtain rfl : N' = k := by omega
          have HO := hide hown
          have RO := hide (own_reads hown)
          have hb' := hide hb
          have s2i := S2I.out
          clear hown
          go_wp2_with fail
          refine (HTs.out _ _ _ RO.out).mono ?_
          rintro e w4 ⟨rfl, b4⟩
          have b4 := below_then b1 zb (below_then hb'.out hb'.out.size b4)
          go_wp2_with fail
          go_ret
          exact ⟨rfl, b4⟩
    · have hX : coversP bc br hs = -1 := by unfold coversP; rw [if_neg hH]
      rw [hX] at HIs HSs
      clear hX hH hown
      go_wp2_with fail
      refine (HIs.out _ (Below.refl _ _)).mono ?_
      rintro e w2 ⟨rfl, b2⟩
      go_wp2_with fail
      refine (HSs.out _ b2).mono ?_
      rintro e w3 ⟨rfl, b3⟩
      have b3 := below_then b2 b2.size b3
      go_wp2_with fail
      refine (HSs.out _ b3).mono ?_
      rintro e w4 ⟨rfl, b4⟩
      have b4 := below_then b1 zb (below_then b3 b3.size b4)
      go_wp2_with fail
      go_ret
      exact ⟨rfl, b4⟩
end Go.Proofs.Ytijidecdokbmnad
