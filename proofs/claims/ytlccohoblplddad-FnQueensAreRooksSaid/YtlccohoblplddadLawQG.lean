
/-
  The walk of the law FnQueensAreRooks.
-/
import Derived.Test.YtlccohoblplddadPEnds
import Derived.Test.YtlccohoblplddadPQueenB
import Derived.Test.YtlccohoblplddadQueenD
import Derived.Test.YtlccohoblplddadDrawQ
import Derived.Test.YtlccohoblplddadCodeWords
import Derived.Test.YtlccohoblplddadFillA
import Derived.Test.YtlccohoblplddadFullA
import Derived.Deep.RegionHeld3
namespace Go.Proofs.Ytlccohoblplddad
open Go.RowKit
set_option linter.unusedVariables false

theorem ends_count : ∀ n : Fin 7, 1 ≤ n.val → endsP n.val [] = countP n.val ∧ 0 ≤ countP n.val ∧ countP n.val ≤ 1000 := by decide +kernel
theorem full_facts : ∀ n : Fin 6, 1 ≤ n.val → (countsP (fullL n.val))[n.val]?.getD 0 = ((fact n.val : Nat) : Int) ∧ countP n.val ≤ ((fact n.val : Nat) : Int) := by decide +kernel

set_option maxHeartbeats 2000000 in
set_option maxRecDepth 100000 in
theorem queensAreRooks_w (A : Option Addr) (n c : Nat) (w : World) (h : Code w A n c) : Calls Try.prog 6 #[.slice A n c] w (Plain (.bool true) w) := by
  by_cases hl : 1048576 < (n : Int)
  · go_enter Try.func6, Try.ntmps6
    go_wp2
    go_ret
    exact ⟨rfl, Below.refl _ _⟩
  · have HC := hide (drawCountQueens_c A n c w h)
    clear h
    go_enter Try.func6, Try.ntmps6
    go_wp2_with fail
    refine HC.out.mono ?_
    rintro e w1 ⟨k, rfl, ⟨k0, k7⟩, b1⟩
    have HS := hide (fun w5 => specCountQueens_c k w5)
    have HI := hide (fun w5 => implCountQueens_c k w5)
    by_cases hk : 1 ≤ k ∧ k ≤ 6
    · obtain ⟨m, rfl⟩ := Int.eq_ofNat_of_zero_le k0
      have hm1 : 1 ≤ m := by omega
      have hm6 : m ≤ 6 := by omega
      obtain ⟨f1, hv0, hv1⟩ := ends_count ⟨m, by omega⟩ hm1
      simp only at f1 hv0 hv1
      have HE := hide (fun (w5 : World) => show Calls Try.prog 18 #[.int .i64 (m : Int), .slice none 0 0] w5 (Plain (.int .i64 (countP (m : Int))) w5) by
        rw [← f1]; exact implEndsOf_c (m : Int) none 0 [] w5 (Row.empty _ _) (by simp))
      have HP := hide (fun w5 => lawsPower_c m hm6 w5)
      have HA := hide (fun w5 => lawsFact_c m hm6 w5)
      have hfl : (fullL m).length = m := by simp [fullL]
      have HR := hide (fun (A : Option Addr) (c : Nat) (w5 : World) (h5 : Row w5 A (ints (fullL m))) => implRookCounts_c A c (fullL m) w5 h5 (by rw [hfl]; unfold maxLen; omega))
      rw [hfl] at HR
      have HM : Hid ((m ≤ 5 ∧ (if Seats (fullL m) then countsP (fullL m) else []).length = m + 1 ∧ (if Seats (fullL m) then countsP (fullL m) else [])[m]?.getD 0 = ((fact m : Nat) : Int) ∧ countP (m : Int) ≤ ((fact m : Nat) : Int)) ∨ (m = 6 ∧ (if Seats (fullL m) then countsP (fullL m) else []) = [])) := by
        show _ ∨ _
        by_cases h5 : m ≤ 5
        · have hf := full_seats hm1 h5
          obtain ⟨g1, g2⟩ := full_facts ⟨m, by omega⟩ hm1
          rw [if_pos hf]
          exact .inl ⟨h5, by rw [counts_len, hfl], g1, g2⟩
        · refine .inr ⟨by omega, ?_⟩
          rw [if_neg]
          intro hs
          have := hs.1.2
          omega
      obtain ⟨p1, p2⟩ := pow_bd (n := m) hm6
      have hfF := hide (show ((2 ^ m : Nat) : Int) - 1 = fullP m from rfl)
      have hfull := hide (show fullL m = List.replicate m (fullP m) from rfl)
      clear f1 hk k0 k7 hfl
      generalize (if Seats (fullL m) then countsP (fullL m) else []) = M at *
      generalize fullL m = FL at *
      generalize fullP m = F at *
      generalize 2 ^ m = P at *
      generalize countP (m : Int) = v at *
      generalize fact m = fa at *
      have e1 : IntKind.i64.wrap ((P : Int) - 1) = F := (IntWalk.i64_in _ (by omega)).trans hfF.out
      have hvv : (v != v) = false := by simp
      go_wp2_with fail
      refine (HI.out _).mono ?_
      rintro e w2 ⟨rfl, rfl⟩
      go_wp2_with fail
      refine (HS.out _).mono ?_
      rintro e w2 ⟨rfl, rfl⟩
      go_wp2_with fail
      refine (HI.out _).mono ?_
      rintro e w2 ⟨rfl, rfl⟩
      go_wp2_with fail
      go_loopw [5, 6] (fun v i wr => ∃ k : Nat, k ≤ m ∧ i = .int .i64 (k : Int) ∧ wr.ownsRow w1.heap.size 3 1 v k (ints (List.replicate k F)) ∧ Below w1.heap.size w1 wr) (fun _ i _ => m - (intOf i).toNat)
      case atStart => exact ⟨0, Nat.zero_le _, rfl, by simpa using World.ownsRow_made w1 #[] 0 (Nat.le_refl _) (by simp [maxLen]) rfl, (Below.refl _ _).alloc (Nat.le_refl _) _⟩
      case round =>
        obtain ⟨k, hk, rfl, hown, hb⟩ := hrel
        obtain ⟨wo, rfl⟩ : ∃ wo : World, wo = wr := ⟨_, rfl⟩
        have z := hb.size
        obtain ⟨A0, c0, rfl, _⟩ := own_row hown
        by_cases hlt : k < m
        · have hva := hide (hown.alloc (.cells #[.int .i64 F] 3))
          have hba := hb.alloc z (.cells #[.int .i64 F] 3)
          go_wp2_with fail
          refine (HP.out _).mono ?_
          rintro e w6 ⟨rfl, rfl⟩
          go_wp2_with ((at_builtin; refine put_own rfl (.tmp 28) (.tmp 32) rfl Try.underlying27 elem_int' rfl hva.out rfl (m := 1) (news := [.int .i64 F]) rfl (row_new _ _ _ rfl) (by simp [Value.oneCell']) (by omega) (by omega) hba.size ?_; intro v9 w9 own9 hg9 ho9))
          exact ⟨⟨k + 1, hlt, rfl, by rw [List.replicate_succ']; simpa [ints] using own9, below_grown hba hba.size hva.out (Nat.le_refl _) hg9⟩, by simp [intOf]; omega⟩
        · obtain rfl : k = m := by omega
          rw [← hfull.out] at hown
          have b6 := below_then b1 b1.size hb
          rcases HM.out with ⟨h5, hM1, hM2, hM3⟩ | ⟨h6, rfl⟩
          · go_wp2_with fail
            refine (HR.out A0 c0 _ (own_reads hown)).mono ?_
            rintro e w7 ⟨v7, rfl, o7, b7⟩
            obtain ⟨A7, c7, rfl, _⟩ := own_row o7
            obtain ⟨ad, rfl, hc7⟩ := (own_reads o7).int (k := k) (by rw [hM1]; omega)
            rw [hM2] at hc7
            have b7 := hide (below_then b6 b6.size b7)
            have hz0 : ((M.length : Int) == 0) = false := by rw [beq_eq_false_iff_ne]; omega
            have k0 : (0 : Int) ≤ (k : Int) := by omega
            have k1 : (k : Int) < (M.length : Int) := by omega
            have B7 := hide b7.out.drew
            have hcd : w7.drew.cell? (ad.add k) = some (.int .i64 (fa : Int)) := hc7
            clear hown o7 hM1 hM2 HM b6 b7 hfull hfF hc7
            generalize M.length = ml at *
            go_wp2_with fail
            go_region_held3 (fun w' => w'.cell? (ad.add k) = some (.int .i64 (fa : Int))) (go_keep)
              (first
                | (go_at_call 18; refine (HE.out _).mono ?_; rintro e w8 ⟨rfl, b8⟩
                   have hk8 := (b8.cell (World.block_lt_of_cell? _ _ hcd)).trans hcd
                   have B8 := hide (below_then B7.out B7.out.size b8))
                | (go_at_call 25; refine (HA.out _).mono ?_; rintro e w9 ⟨rfl, rfl⟩))
            go_wp2_with fail
            go_ret
            exact ⟨rfl, B8.out⟩
          · subst h6
            go_wp2_with fail
            refine (HR.out A0 c0 _ (own_reads hown)).mono ?_
            rintro e w7 ⟨v7, rfl, o7, b7⟩
            obtain ⟨A7, c7, rfl, _⟩ := own_row o7
            have B7 := hide (below_then b6 b6.size b7).drew
            clear hown o7 HM b6 b7 hfull hfF
            go_wp2_with fail
            refine wp_region_held_drew (S := fun _ => True) (by kernel_rfl) True.intro (fun hHeld => ?_)
            refine wpAnyH_take (i := 0) (oi := { dst := some 36, op := Op.move (Operand.tmp 3), type := 3, pos := "laws.go:1222", after := #[], guard := none }) (v := ?_) rfl (by kernel_rfl) (by kernel_rfl) (by kernel_rfl) (fun _ _ _ h => h) (Or.inl ⟨by rfl, ?_⟩) True.intro ?_
            rotate_left
            · (intro w' hSw; go_simp; all_goals with_reducible rfl)
            try simp only [Act.put, List.setIfInBounds_toArray, List.set_cons_zero, List.set_cons_succ]
            refine wpAnyH_take (i := 2) (oi := { dst := some 38, op := Op.move (Operand.tmp 4), type := 3, pos := "laws.go:1222", after := #[], guard := none }) (v := ?_) rfl (by kernel_rfl) (by kernel_rfl) (by kernel_rfl) (fun _ _ _ h => h) (Or.inl ⟨by rfl, ?_⟩) True.intro ?_
            rotate_left
            · (intro w' hSw; go_simp; all_goals with_reducible rfl)
            try simp only [Act.put, List.setIfInBounds_toArray, List.set_cons_zero, List.set_cons_succ]
            refine wpAnyH_ready (rs := [1]) (by kernel_rfl) (by simp) ?_
            refine AllReadyH.cons (o := { dst := some 37, op := Op.call { callee := Callee.value (Operand.func 18), args := #[Operand.tmp 36, Operand.const (Value.slice none 0 0)], argTypes := #[3, 27] }, type := 3, pos := "laws.go:1222", after := #[{ on := 0, ground := Ground.data }], guard := none }) rfl (fun K hK => ?_) AllReadyH.nil
            go_simp
            go_at_call 18
            refine (HE.out _).mono ?_
            rintro e w8 ⟨rfl, b8⟩
            have B8 := hide (below_then B7.out B7.out.size b8)
            clear b8
            try go_wp2_with fail
            refine hK.out _ _ True.intro (fun hHeld => ?_)
            clear hK K
            try simp only [Act.put, List.setIfInBounds_toArray, List.set_cons_zero, List.set_cons_succ]
            refine wpAnyH_take (i := 3) (oi := { dst := some 39, op := Op.binOp BinOp.eql 3 (Operand.tmp 37) (Operand.tmp 38) 3, type := 4, pos := "laws.go:1222", after := #[{ on := 1, ground := Ground.data }, { on := 2, ground := Ground.data }], guard := none }) (v := ?_) rfl (by kernel_rfl) (by kernel_rfl) (by kernel_rfl) (fun _ _ _ h => h) (Or.inl ⟨by rfl, ?_⟩) True.intro ?_
            rotate_left
            · (intro w' hSw; go_simp; all_goals with_reducible rfl)
            try simp only [Act.put, List.setIfInBounds_toArray, List.set_cons_zero, List.set_cons_succ]
            refine wpAnyH_take (i := 4) (oi := { dst := some 40, op := Op.move (Operand.tmp 39), type := 4, pos := "laws.go:1222", after := #[{ on := 3, ground := Ground.data }, { on := 1, ground := Ground.chain }], guard := none }) (v := ?_) rfl (by kernel_rfl) (by kernel_rfl) (by kernel_rfl) (fun _ _ _ h => h) (Or.inl ⟨by rfl, ?_⟩) True.intro ?_
            rotate_left
            · (intro w' hSw; go_simp; all_goals with_reducible rfl)
            try simp only [Act.put, List.setIfInBounds_toArray, List.set_cons_zero, List.set_cons_succ]
            refine wpAnyH_take (i := 5) (oi := { dst := some 41, op := Op.move (Operand.tmp 7), type := 27, pos := "laws.go:1222", after := #[{ on := 4, ground := Ground.guard }], guard := some (4, true) }) (v := ?_) rfl (by kernel_rfl) (by kernel_rfl) (by kernel_rfl) (fun _ _ _ h => h) (Or.inl ⟨by rfl, ?_⟩) True.intro ?_
            rotate_left
            · (intro w' hSw; go_simp; all_goals with_reducible rfl)
            try simp only [Act.put, List.setIfInBounds_toArray, List.set_cons_zero, List.set_cons_succ]
            refine wpAnyH_take (i := 6) (oi := { dst := some 42, op := Op.call { callee := Callee.builtin Builtin.len, args := #[Operand.tmp 41], argTypes := #[27] }, type := 3, pos := "laws.go:1222", after := #[{ on := 5, ground := Ground.data }, { on := 4, ground := Ground.guard }], guard := some (4, true) }) (v := ?_) rfl (by kernel_rfl) (by kernel_rfl) (by kernel_rfl) (fun _ _ _ h => h) (Or.inl ⟨by rfl, ?_⟩) True.intro ?_
            rotate_left
            · (intro w' hSw; go_simp; all_goals with_reducible rfl)
            try simp only [Act.put, List.setIfInBounds_toArray, List.set_cons_zero, List.set_cons_succ]
            refine wpAnyH_take (i := 7) (oi := { dst := some 43, op := Op.binOp BinOp.eql 3 (Operand.tmp 42) (Operand.const (Value.int IntKind.i64 0)) 3, type := 4, pos := "laws.go:1222", after := #[{ on := 6, ground := Ground.data }, { on := 4, ground := Ground.guard }], guard := some (4, true) }) (v := ?_) rfl (by kernel_rfl) (by kernel_rfl) (by kernel_rfl) (fun _ _ _ h => h) (Or.inl ⟨by rfl, ?_⟩) True.intro ?_
            rotate_left
            · (intro w' hSw; go_simp; all_goals with_reducible rfl)
            try simp only [Act.put, List.setIfInBounds_toArray, List.set_cons_zero, List.set_cons_succ]
            refine wpAnyH_take (i := 8) (oi := { dst := some 44, op := Op.move (Operand.tmp 43), type := 4, pos := "laws.go:1222", after := #[{ on := 7, ground := Ground.data }, { on := 4, ground := Ground.chain }, { on := 4, ground := Ground.guard }], guard := some (4, true) }) (v := ?_) rfl (by kernel_rfl) (by kernel_rfl) (by kernel_rfl) (fun _ _ _ h => h) (Or.inl ⟨by rfl, ?_⟩) True.intro ?_
            rotate_left
            · (intro w' hSw; go_simp; all_goals with_reducible rfl)
            try simp only [Act.put, List.setIfInBounds_toArray, List.set_cons_zero, List.set_cons_succ]
            refine wpAnyH_take (i := 9) (oi := { dst := some 45, op := Op.move (Operand.tmp 4), type := 3, pos := "laws.go:1222", after := #[{ on := 8, ground := Ground.guard }], guard := some (8, false) }) (v := undef) rfl (by kernel_rfl) (by kernel_rfl) (by kernel_rfl) (fun _ _ _ h => h) (Or.inr ⟨by rfl, rfl⟩) True.intro ?_
            try simp only [Act.put, List.setIfInBounds_toArray, List.set_cons_zero, List.set_cons_succ]
            refine wpAnyH_take (i := 10) (oi := { dst := some 46, op := Op.move (Operand.tmp 7), type := 27, pos := "laws.go:1222", after := #[{ on := 8, ground := Ground.guard }], guard := some (8, false) }) (v := undef) rfl (by kernel_rfl) (by kernel_rfl) (by kernel_rfl) (fun _ _ _ h => h) (Or.inr ⟨by rfl, rfl⟩) True.intro ?_
            try simp only [Act.put, List.setIfInBounds_toArray, List.set_cons_zero, List.set_cons_succ]
            refine wpAnyH_take (i := 11) (oi := { dst := some 47, op := Op.move (Operand.tmp 3), type := 3, pos := "laws.go:1222", after := #[{ on := 8, ground := Ground.guard }], guard := some (8, false) }) (v := undef) rfl (by kernel_rfl) (by kernel_rfl) (by kernel_rfl) (fun _ _ _ h => h) (Or.inr ⟨by rfl, rfl⟩) True.intro ?_
            try simp only [Act.put, List.setIfInBounds_toArray, List.set_cons_zero, List.set_cons_succ]
            refine wpAnyH_take (i := 12) (oi := { dst := some 48, op := Op.indexAddr 27 (Operand.tmp 46) (Operand.tmp 47), type := 0, pos := "laws.go:1222", after := #[{ on := 10, ground := Ground.data }, { on := 11, ground := Ground.data }, { on := 8, ground := Ground.guard }], guard := some (8, false) }) (v := undef) rfl (by kernel_rfl) (by kernel_rfl) (by kernel_rfl) (fun _ _ _ h => h) (Or.inr ⟨by rfl, rfl⟩) True.intro ?_
            try simp only [Act.put, List.setIfInBounds_toArray, List.set_cons_zero, List.set_cons_succ]
            refine wpAnyH_take (i := 13) (oi := { dst := some 49, op := Op.load 3 (Operand.tmp 48), type := 3, pos := "laws.go:1222", after := #[{ on := 12, ground := Ground.data }, { on := 8, ground := Ground.guard }], guard := some (8, false) }) (v := undef) rfl (by kernel_rfl) (by kernel_rfl) (by kernel_rfl) (fun _ _ _ h => h) (Or.inr ⟨by rfl, rfl⟩) True.intro ?_
            try simp only [Act.put, List.setIfInBounds_toArray, List.set_cons_zero, List.set_cons_succ]
            refine wpAnyH_take (i := 14) (oi := { dst := some 50, op := Op.binOp BinOp.leq 3 (Operand.tmp 45) (Operand.tmp 49) 3, type := 4, pos := "laws.go:1222", after := #[{ on := 9, ground := Ground.data }, { on := 13, ground := Ground.data }, { on := 8, ground := Ground.guard }], guard := some (8, false) }) (v := undef) rfl (by kernel_rfl) (by kernel_rfl) (by kernel_rfl) (fun _ _ _ h => h) (Or.inr ⟨by rfl, rfl⟩) True.intro ?_
            try simp only [Act.put, List.setIfInBounds_toArray, List.set_cons_zero, List.set_cons_succ]
            refine wpAnyH_take (i := 15) (oi := { dst := some 51, op := Op.move (Operand.tmp 50), type := 4, pos := "laws.go:1222", after := #[{ on := 14, ground := Ground.data }, { on := 8, ground := Ground.chain }, { on := 8, ground := Ground.guard }], guard := some (8, false) }) (v := undef) rfl (by kernel_rfl) (by kernel_rfl) (by kernel_rfl) (fun _ _ _ h => h) (Or.inr ⟨by rfl, rfl⟩) True.intro ?_
            try simp only [Act.put, List.setIfInBounds_toArray, List.set_cons_zero, List.set_cons_succ]
            refine wpAnyH_take (i := 16) (oi := { dst := some 52, op := Op.move (Operand.tmp 7), type := 27, pos := "laws.go:1222", after := #[{ on := 15, ground := Ground.guard }], guard := some (15, true) }) (v := undef) rfl (by kernel_rfl) (by kernel_rfl) (by kernel_rfl) (fun _ _ _ h => h) (Or.inr ⟨by rfl, rfl⟩) True.intro ?_
            try simp only [Act.put, List.setIfInBounds_toArray, List.set_cons_zero, List.set_cons_succ]
            refine wpAnyH_take (i := 17) (oi := { dst := some 53, op := Op.move (Operand.tmp 3), type := 3, pos := "laws.go:1222", after := #[{ on := 15, ground := Ground.guard }], guard := some (15, true) }) (v := undef) rfl (by kernel_rfl) (by kernel_rfl) (by kernel_rfl) (fun _ _ _ h => h) (Or.inr ⟨by rfl, rfl⟩) True.intro ?_
            try simp only [Act.put, List.setIfInBounds_toArray, List.set_cons_zero, List.set_cons_succ]
            refine wpAnyH_take (i := 18) (oi := { dst := some 54, op := Op.indexAddr 27 (Operand.tmp 52) (Operand.tmp 53), type := 0, pos := "laws.go:1222", after := #[{ on := 16, ground := Ground.data }, { on := 17, ground := Ground.data }, { on := 15, ground := Ground.guard }], guard := some (15, true) }) (v := undef) rfl (by kernel_rfl) (by kernel_rfl) (by kernel_rfl) (fun _ _ _ h => h) (Or.inr ⟨by rfl, rfl⟩) True.intro ?_
            try simp only [Act.put, List.setIfInBounds_toArray, List.set_cons_zero, List.set_cons_succ]
            refine wpAnyH_take (i := 19) (oi := { dst := some 55, op := Op.load 3 (Operand.tmp 54), type := 3, pos := "laws.go:1222", after := #[{ on := 18, ground := Ground.data }, { on := 15, ground := Ground.guard }], guard := some (15, true) }) (v := undef) rfl (by kernel_rfl) (by kernel_rfl) (by kernel_rfl) (fun _ _ _ h => h) (Or.inr ⟨by rfl, rfl⟩) True.intro ?_
            try simp only [Act.put, List.setIfInBounds_toArray, List.set_cons_zero, List.set_cons_succ]
            refine wpAnyH_take (i := 20) (oi := { dst := some 56, op := Op.move (Operand.tmp 3), type := 3, pos := "laws.go:1222", after := #[{ on := 15, ground := Ground.guard }], guard := some (15, true) }) (v := undef) rfl (by kernel_rfl) (by kernel_rfl) (by kernel_rfl) (fun _ _ _ h => h) (Or.inr ⟨by rfl, rfl⟩) True.intro ?_
            try simp only [Act.put, List.setIfInBounds_toArray, List.set_cons_zero, List.set_cons_succ]
            refine wpAnyH_take (i := 21) (oi := { dst := some 57, op := Op.call { callee := Callee.value (Operand.func 25), args := #[Operand.tmp 56], argTypes := #[3] }, type := 3, pos := "laws.go:1222", after := #[{ on := 20, ground := Ground.data }, { on := 15, ground := Ground.chain }, { on := 15, ground := Ground.guard }], guard := some (15, true) }) (v := undef) rfl (by kernel_rfl) (by kernel_rfl) (by kernel_rfl) (fun _ _ _ h => h) (Or.inr ⟨by rfl, rfl⟩) True.intro ?_
            try simp only [Act.put, List.setIfInBounds_toArray, List.set_cons_zero, List.set_cons_succ]
            refine wpAnyH_take (i := 22) (oi := { dst := some 58, op := Op.binOp BinOp.eql 3 (Operand.tmp 55) (Operand.tmp 57) 3, type := 4, pos := "laws.go:1222", after := #[{ on := 19, ground := Ground.data }, { on := 21, ground := Ground.data }, { on := 15, ground := Ground.guard }], guard := some (15, true) }) (v := undef) rfl (by kernel_rfl) (by kernel_rfl) (by kernel_rfl) (fun _ _ _ h => h) (Or.inr ⟨by rfl, rfl⟩) True.intro ?_
            try simp only [Act.put, List.setIfInBounds_toArray, List.set_cons_zero, List.set_cons_succ]
            refine wpAnyH_take (i := 23) (oi := { dst := some 59, op := Op.pick (Operand.tmp 51) (Operand.tmp 58) (Operand.const (Value.bool false)), type := 4, pos := "laws.go:1222", after := #[{ on := 15, ground := Ground.data }, { on := 22, ground := Ground.data }, { on := 8, ground := Ground.guard }], guard := some (8, false) }) (v := undef) rfl (by kernel_rfl) (by kernel_rfl) (by kernel_rfl) (fun _ _ _ h => h) (Or.inr ⟨by rfl, rfl⟩) True.intro ?_
            try simp only [Act.put, List.setIfInBounds_toArray, List.set_cons_zero, List.set_cons_succ]
            refine wpAnyH_take (i := 24) (oi := { dst := some 60, op := Op.pick (Operand.tmp 44) (Operand.const (Value.bool true)) (Operand.tmp 59), type := 4, pos := "laws.go:1222", after := #[{ on := 8, ground := Ground.data }, { on := 23, ground := Ground.data }, { on := 4, ground := Ground.guard }], guard := some (4, true) }) (v := ?_) rfl (by kernel_rfl) (by kernel_rfl) (by kernel_rfl) (fun _ _ _ h => h) (Or.inl ⟨by rfl, ?_⟩) True.intro ?_
            rotate_left
            · (intro w' hSw; go_simp; all_goals with_reducible rfl)
            try simp only [Act.put, List.setIfInBounds_toArray, List.set_cons_zero, List.set_cons_succ]
            refine wpAnyH_take (i := 25) (oi := { dst := some 61, op := Op.pick (Operand.tmp 40) (Operand.tmp 60) (Operand.const (Value.bool false)), type := 4, pos := "laws.go:1222", after := #[{ on := 4, ground := Ground.data }, { on := 24, ground := Ground.data }], guard := none }) (v := ?_) rfl (by kernel_rfl) (by kernel_rfl) (by kernel_rfl) (fun _ _ _ h => h) (Or.inl ⟨by rfl, ?_⟩) True.intro ?_
            rotate_left
            · (intro w' hSw; go_simp; all_goals with_reducible rfl)
            try simp only [Act.put, List.setIfInBounds_toArray, List.set_cons_zero, List.set_cons_succ]
            refine wpAnyH_take (i := 26) (oi := { dst := some 2, op := Op.assign (Operand.tmp 61), type := 4, pos := "laws.go:1222", after := #[{ on := 25, ground := Ground.data }, { on := 21, ground := Ground.chain }, { on := 0, ground := Ground.phase }, { on := 1, ground := Ground.phase }, { on := 2, ground := Ground.phase }, { on := 3, ground := Ground.phase }, { on := 4, ground := Ground.phase }, { on := 5, ground := Ground.phase }, { on := 6, ground := Ground.phase }, { on := 7, ground := Ground.phase }, { on := 8, ground := Ground.phase }, { on := 9, ground := Ground.phase }, { on := 10, ground := Ground.phase }, { on := 11, ground := Ground.phase }, { on := 12, ground := Ground.phase }, { on := 13, ground := Ground.phase }, { on := 14, ground := Ground.phase }, { on := 15, ground := Ground.phase }, { on := 16, ground := Ground.phase }, { on := 17, ground := Ground.phase }, { on := 18, ground := Ground.phase }, { on := 19, ground := Ground.phase }, { on := 20, ground := Ground.phase }, { on := 21, ground := Ground.phase }, { on := 22, ground := Ground.phase }, { on := 23, ground := Ground.phase }, { on := 24, ground := Ground.phase }, { on := 25, ground := Ground.phase }], guard := none }) (v := ?_) rfl (by kernel_rfl) (by kernel_rfl) (by kernel_rfl) (fun _ _ _ h => h) (Or.inl ⟨by rfl, ?_⟩) True.intro ?_
            rotate_left
            · (intro w' hSw; go_simp; all_goals with_reducible rfl)
            try simp only [Act.put, List.setIfInBounds_toArray, List.set_cons_zero, List.set_cons_succ]
            refine wpAnyH_done (by kernel_rfl) ?_ _
            go_wp2_with fail
            go_ret
            exact ⟨rfl, B8.out⟩
    · have hv : countP k = -1 := by unfold countP; rw [if_neg hk]
      rw [hv] at HS HI
      clear hv hk
      go_wp2_with fail
      refine (HI.out _).mono ?_
      rintro e w2 ⟨rfl, rfl⟩
      go_wp2_with fail
      refine (HS.out _).mono ?_
      rintro e w2 ⟨rfl, rfl⟩
      go_wp2_with fail
      refine (HI.out _).mono ?_
      rintro e w2 ⟨rfl, rfl⟩
      go_wp2_with fail
      go_ret
      exact ⟨rfl, b1⟩
end Go.Proofs.Ytlccohoblplddad
