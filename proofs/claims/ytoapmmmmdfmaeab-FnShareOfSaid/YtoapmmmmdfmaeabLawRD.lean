
/-
  The walk of the law FnShareOf, off the contract of the program's function (given).
-/
import Derived.Test.YtoapmmmmdfmaeabWalkG
import Derived.Test.YtoapmmmmdfmaeabDrawM
import Derived.Test.YtoapmmmmdfmaeabLawRW
import Derived.Test.YtoapmmmmdfmaeabGuardN
import Derived.Deep.RegionHeld3
namespace Go.Proofs.Ytoapmmmmdfmaeab
open Go.RowKit
set_option linter.unusedVariables false

theorem share_law (bc br : Int) (s : ByteArray) (cell : Int) : shareV bc br s.toList cell = none ∨ ∃ (a b n : Nat) (p : Nat × Nat) (P S : Nat → Nat × Nat), bc = (a : Int) ∧ br = (b : Int) ∧ a * b = n ∧ 1 ≤ n ∧ n ≤ 9 ∧ shareV bc br s.toList cell = some p ∧
    (∀ i, i < n → shareV bc br s.toList (i : Int) = some (P i) ∧ okF (P i) = true ∧ okF (S i) = true ∧ S (i + 1) = plusP (S i) (P i)) ∧ S 0 = (0, 1) ∧ S n = (1, 1) ∧ ((s.toList == [114, 111, 111, 107]) = true → p = fracP 1 n) := by
  unfold shareV
  cases hk : smallK bc br s.toList with
  | none => exact .inl rfl
  | some z =>
    obtain ⟨ss, far⟩ := z
    obtain ⟨hS, hkk⟩ := smallK_some hk
    obtain ⟨a, b, n, hW⟩ := walk_of hS hkk
    simp only
    by_cases hc : 0 ≤ cell ∧ cell < bc * br
    · rw [if_pos hc]
      cases hh : hitOf (setsP bc br far ss) with
      | none => exact .inl rfl
      | some M =>
        have hch := chance_of hh
        unfold chanceOk at hch
        simp only [Bool.and_eq_true, decide_eq_true_eq, beq_iff_eq] at hch
        obtain ⟨⟨⟨⟨⟨_, _⟩, hbk⟩, hsh⟩, h11⟩, _⟩ := hch
        have hsz := hW.size
        have hln := hW.len
        have e1 := hW.eqc
        have e2 := hW.eqr
        have hz := hW.sz
        have hn9 := hW.nine
        refine .inr ⟨a, b, n, _, fun i => shareP (setsP bc br far ss) i, shareTo (setsP bc br far ss), e1, e2, hW.sz, hW.one, hW.nine, rfl, ?_, rfl, by rw [← hln]; exact h11, ?_⟩
        · intro i hi
          have hbo := List.all_eq_true.1 hbk i (List.mem_range.2 (by omega))
          unfold backOk at hbo
          simp only [Bool.and_eq_true, decide_eq_true_eq, beq_iff_eq] at hbo
          refine ⟨?_, hbo.1.2, List.all_eq_true.1 hsh i (List.mem_range.2 (by omega)), rfl⟩
          rw [if_pos (by omega)]
          simp only [Option.map_some, Int.toNat_natCast]
        · intro hs
          rw [beq_iff_eq.1 hs] at hkk
          have hps : (straight, true) = (ss, far) := Option.some.inj hkk
          obtain ⟨rfl, rfl⟩ := Prod.mk.inj hps
          obtain ⟨s1, s2, s3, s4, s5⟩ := hS
          have hr := rook_all ⟨a - 1, by omega⟩ ⟨b - 1, by omega⟩ (by
            show (a - 1 + 1) * (b - 1 + 1) ≤ 9
            rw [show a - 1 + 1 = a by omega, show b - 1 + 1 = b by omega, hz]; exact hn9)
          simp only [show a - 1 + 1 = a by omega, show b - 1 + 1 = b by omega] at hr
          unfold rookOk at hr
          have := List.all_eq_true.1 hr cell.toNat (List.mem_range.2 (by rw [hz]; omega))
          rw [e1, e2] at hh
          rw [hh] at this
          simp only [Option.isNone_some, Bool.false_or, beq_iff_eq] at this
          rw [e1, e2, this, hz]
    · rw [if_neg hc]
      exact .inl rfl
set_option maxHeartbeats 4000000 in
set_option maxRecDepth 100000 in
theorem shareOf_w (HI : ∀ (bc br : Int) (s : ByteArray) (i : Int) (w5 : World), Calls Try.prog 8 #[.int .i64 bc, .int .i64 br, .string s, .int .i64 i] w5 (Plain (optF (shareV bc br s.toList i)) w5))
    (A : Option Addr) (n c : Nat) (w : World) (h : Code w A n c) : Calls Try.prog 3 #[.slice A n c] w (Plain (.bool true) w) := by
  by_cases hl : 1048576 < (n : Int)
  · go_enter Try.func3, Try.ntmps3
    go_wp2
    go_ret
    exact ⟨rfl, Below.refl _ _⟩
  · have HC := hide (drawShareOf_c A n c w h)
    have HI := hide HI
    clear h
    go_enter Try.func3, Try.ntmps3
    go_wp2_with fail
    refine HC.out.mono ?_
    rintro e w1 ⟨bc, br, i, s, rfl, -, -, -, -, b1⟩
    have HI1 := hide (fun w5 => HI.out bc br s i w5)
    have HS1 := hide (fun w5 => specShareOf_c bc br s i w5)
    clear HC
    rcases share_law bc br s i with hn | ⟨a, b, N, p, P, S, rfl, rfl, hab, hN1, hN9, hp, hP, hS0, hSN, hrk⟩
    · rw [hn] at HI1 HS1
      have ho : optF none = .tuple #[.agg #[.int .i64 0, .int .i64 0], .bool false] := rfl
      rw [ho] at HI1 HS1
      clear hn HI
      go_wp2_with fail
      refine (HI1.out _).mono ?_
      rintro e w2 ⟨rfl, b2⟩
      have b12 := below_then b1 b1.size b2
      have bw := Box.new w2 26 #[.int .i64 0, .int .i64 0]
      have b12 := b12.alloc b12.size (.cells #[.int .i64 0, .int .i64 0] 26)
      go_wp2_with fail
      refine (HS1.out _).mono ?_
      rintro e w3 ⟨rfl, b3⟩
      have b13 := below_then b12 b12.size b3
      have bw := (bw.then b3).alloc (.cells #[.int .i64 0, .int .i64 0] 26)
      have bg := Box.new w3 26 #[.int .i64 0, .int .i64 0]
      have b13 := b13.alloc b13.size (.cells #[.int .i64 0, .int .i64 0] 26)
      have c0 := bw.cell 0
      have c1 := bw.cell 1
      have d0 := bg.cell 0
      have d1 := bg.cell 1
      go_wp2_with fail
      go_ret
      exact ⟨rfl, b13⟩
    · have HP := hide (fun i hi w5 => show Calls Try.prog _ #[.int .i64 (a : Int), .int .i64 (b : Int), .string s, .int .i64 ((i : Nat) : Int)] w5 (Plain (optF (some (P i))) w5) by
        rw [← (hP i hi).1]; exact HI.out (a : Int) (b : Int) s (i : Int) w5)
      have HO := hide (fun i hi => (hP i hi).2)
      have HPL := hide (fun (x y : Nat × Nat) (w5 : World) hx hy => plusOf_c x y w5 hx hy)
      have HF01 := hide (fun w5 => show Calls Try.prog _ #[.int .i64 0, .int .i64 1] w5 (Plain (fracV (0, 1)) w5) from fracOf_c 0 1 w5 (by omega) ⟨by omega, by omega⟩)
      have HF11 := hide (fun w5 => show Calls Try.prog _ #[.int .i64 1, .int .i64 1] w5 (Plain (fracV (1, 1)) w5) from fracOf_c 1 1 w5 (by omega) ⟨by omega, by omega⟩)
      have HF1n := hide (fun w5 => show Calls Try.prog _ #[.int .i64 1, .int .i64 (N : Int)] w5 (Plain (fracV (fracP 1 N)) w5) from fracOf_c 1 N w5 (by omega) ⟨hN1, by omega⟩)
      rw [hp] at HI1 HS1
      have HRK := hide hrk
      have HS0 := hide hS0
      have HSN := hide hSN
      have em : IntKind.i64.wrap ((a : Int) * (b : Int)) = (N : Int) := (IntWalk.i64_in _ (by rw [← Int.natCast_mul, hab]; omega)).trans (by rw [← Int.natCast_mul, hab])
      obtain ⟨x, y⟩ := p
      have ho1 : optF (some (x, y)) = .tuple #[.agg #[.int .i64 (x : Int), .int .i64 (y : Int)], .bool true] := rfl
      rw [ho1] at HI1 HS1
      clear hp ho1 HI hrk hS0 hSN hP hab hN1
      go_wp2_with fail
      refine (HI1.out _).mono ?_
      rintro e w2 ⟨rfl, b2⟩
      have b12 := below_then b1 b1.size b2
      have bw := Box.new w2 26 #[.int .i64 (x : Int), .int .i64 (y : Int)]
      have hgx := b12.size
      have b12 := b12.alloc b12.size (.cells #[.int .i64 (x : Int), .int .i64 (y : Int)] 26)
      obtain ⟨gx, egx⟩ : ∃ gx, w2.heap.size = gx := ⟨_, rfl⟩
      rw [egx] at bw hgx
      go_wp2_with fail
      clear egx
      refine (HS1.out _).mono ?_
      rintro e w3 ⟨rfl, b3⟩
      have b13 := below_then b12 b12.size b3
      have bw := (bw.then b3).alloc (.cells #[.int .i64 (x : Int), .int .i64 (y : Int)] 26)
      have bg := Box.new w3 26 #[.int .i64 (x : Int), .int .i64 (y : Int)]
      have b13 := b13.alloc b13.size (.cells #[.int .i64 (x : Int), .int .i64 (y : Int)] 26)
      have c0 := bw.cell 0
      have c1 := bw.cell 1
      have d0 := bg.cell 0
      have d1 := bg.cell 1
      go_wp2_with fail
      refine (HF01.out _).mono ?_
      rintro e w4 ⟨rfl, b4⟩
      have b14 := below_then b13 b13.size b4
      have bw4 := (bw.then b4).alloc (.cells #[.int .i64 0, .int .i64 1] 26)
      have hgxs := (bw.then b4).in_
      have bs4 := Box.new w4 26 #[.int .i64 0, .int .i64 1]
      have hgs := b14.size
      have hb4 := b14.alloc b14.size (.cells #[.int .i64 0, .int .i64 1] 26)
      clear bw bg c0 c1 d0 d1 b1 b2 b3 b12 b13 b14 b4
      go_wp2_with fail
      obtain ⟨gs, egs⟩ : ∃ gs, w4.heap.size = gs := ⟨_, rfl⟩
      rw [egs] at bs4 hgs hgxs
      rw [egs]
      clear egs
      go_loopw [12] (fun iv wr => ∃ j : Nat, j ≤ N ∧ iv = .int .i64 (j : Int) ∧ Box wr gs 26 #[.int .i64 ((S j).1 : Int), .int .i64 ((S j).2 : Int)] ∧ Box wr gx 26 #[.int .i64 (x : Int), .int .i64 (y : Int)] ∧ Below w.heap.size w wr) (fun iv _ => N - (intOf iv).toNat)
      case atStart => exact ⟨0, Nat.zero_le _, rfl, by rw [HS0.out]; exact bs4, bw4, hb4⟩
      case round =>
        clear bs4 bw4 hb4
        obtain ⟨j, hjn, rfl, bs, bx, hb⟩ := hrel
        obtain ⟨wo, rfl⟩ : ∃ wo : World, wo = wr := ⟨_, rfl⟩
        by_cases hjl : j < N
        · have j1 : (j : Int) < (N : Int) := by omega
          have HJ := hide hjl
          have HPj := hide (HP.out j hjl)
          have HPS := hide (fun w5 => HPL.out (S j) (P j) w5 (HO.out j hjl).2.1 (HO.out j hjl).1)
          have HSE := hide (HO.out j hjl).2.2
          obtain ⟨sj, hsj⟩ : ∃ sj, S j = sj := ⟨_, rfl⟩
          rw [hsj] at bs HPS HSE
          obtain ⟨pj, hpj⟩ : ∃ pj, P j = pj := ⟨_, rfl⟩
          rw [hpj] at HPj HPS HSE
          clear hsj hpj HPL HO HP
          generalize plusP sj pj = nv at *
          obtain ⟨p1, p2⟩ := pj
          have ho2 : optF (some (p1, p2)) = .tuple #[.agg #[.int .i64 (p1 : Int), .int .i64 (p2 : Int)], .bool true] := rfl
          rw [ho2] at HPj
          clear ho2
          go_wp2_with fail
          refine (HPj.out _).mono ?_
          rintro e w5 ⟨rfl, b5⟩
          have bs5 := (bs.then b5).alloc (.cells #[.int .i64 (p1 : Int), .int .i64 (p2 : Int)] 26)
          have bx5 := (bx.then b5).alloc (.cells #[.int .i64 (p1 : Int), .int .i64 (p2 : Int)] 26)
          have bn5 := Box.new w5 26 #[.int .i64 (p1 : Int), .int .i64 (p2 : Int)]
          have hb5 := (below_then hb hb.size b5).alloc (below_then hb hb.size b5).size (.cells #[.int .i64 (p1 : Int), .int .i64 (p2 : Int)] 26)
          clear bs bx hb b5
          have s0 := bs5.cell 0
          have s1 := bs5.cell 1
          have n0 := bn5.cell 0
          have n1 := bn5.cell 1
          go_wp2_with fail
          refine (HPS.out _).mono ?_
          rintro e w6 ⟨rfl, b6⟩
          have bx6 := bx5.then b6
          obtain ⟨c0, g0, c1, g1, c2, g2, bs6, hb6⟩ := frac_put (bs5.then b6) (below_then hb5 hb5.size b6) hgs (.int .i64 (nv.1 : Int)) (.int .i64 (nv.2 : Int))
          go_wp2_with fail
          exact ⟨⟨j + 1, HJ.out, by go_num, by rw [HSE.out]; exact bs6, (bx6.other (p := ⟨gs, 0, none⟩) (by simp only; omega) _).other (p := ⟨gs, 1, none⟩) (by simp only; omega) _, hb6⟩, by simp [intOf]; omega⟩
        · obtain rfl : j = N := by omega
          rw [HSN.out] at bs
          have s0 : wo.cell? ⟨gs, 0, none⟩ = some (.int .i64 1) := bs.cell 0
          have s1 : wo.cell? ⟨gs, 1, none⟩ = some (.int .i64 1) := bs.cell 1
          have x0 : wo.cell? ⟨gx, 0, none⟩ = some (.int .i64 (x : Int)) := bx.cell 0
          have x1 : wo.cell? ⟨gx, 1, none⟩ = some (.int .i64 (y : Int)) := bx.cell 1
          clear HP HO HPL hgs hgx hgxs hN9 hjl hjn
          cases hsr : (s.toList == [114, 111, 111, 107]) with
          | true =>
            have hsn : (s.toList != [114, 111, 111, 107]) = false := by unfold bne; rw [hsr]; rfl
            have hx := HRK.out hsr
            rw [← hx] at HF1n
            clear HRK hx
            go_wp2_with fail
            go_region_held3 (fun w' => w'.cell? ⟨gs, 0, none⟩ = some (.int .i64 1) ∧ w'.cell? ⟨gs, 1, none⟩ = some (.int .i64 1) ∧ w'.cell? ⟨gx, 0, none⟩ = some (.int .i64 (x : Int)) ∧ w'.cell? ⟨gx, 1, none⟩ = some (.int .i64 (y : Int))) (go_keep)
              (first
                | (go_at_call 10; have hb7' := hb7; refine (HF1n.out _).mono ?_; rintro e w8 ⟨rfl, b8⟩
                   have bs8 := bs7.then b8
                   have bx8 := bx7.then b8
                   have hb8 := below_then hb7 hb7.size b8
                   have u0 : w8.cell? ⟨gs, 0, none⟩ = some (.int .i64 1) := bs8.cell 0
                   have u1 : w8.cell? ⟨gs, 1, none⟩ = some (.int .i64 1) := bs8.cell 1
                   have u2 := bx8.cell 0
                   have u3 := bx8.cell 1)
                | (go_at_call 10; refine (HF11.out _).mono ?_; rintro e w7 ⟨rfl, b7⟩
                   have bs7 := Box.then (w := wo.drew) bs b7
                   have bx7 := Box.then (w := wo.drew) bx b7
                   have hb7 := below_then (w := wo.drew) hb.drew hb.drew.size b7
                   have t0 : w7.cell? ⟨gs, 0, none⟩ = some (.int .i64 1) := bs7.cell 0
                   have t1 : w7.cell? ⟨gs, 1, none⟩ = some (.int .i64 1) := bs7.cell 1
                   have t2 := bx7.cell 0
                   have t3 := bx7.cell 1))
            go_wp2_with fail
            go_ret
            exact ⟨rfl, hb8⟩
          | false =>
            have hsn : (s.toList != [114, 111, 111, 107]) = true := by unfold bne; rw [hsr]; rfl
            clear HRK HF1n
            go_wp2_with fail
            refine wp_region_held_drew (S := fun w' => w'.cell? ⟨gs, 0, none⟩ = some (.int .i64 1) ∧ w'.cell? ⟨gs, 1, none⟩ = some (.int .i64 1)) (by kernel_rfl) ⟨s0, s1⟩ (fun hHeld => ?_)
            refine wpAnyH_take (i := 0) (oi := { dst := some 82, op := Go.Op.load 26 (Go.Operand.tmp 11), type := 26, pos := "laws.go:982", after := #[], guard := none }) (v := ?_) rfl (by kernel_rfl) (by kernel_rfl) (by kernel_rfl) (fun _ _ _ h => h) (Or.inl ⟨by rfl, ?_⟩) ⟨s0, s1⟩ ?_
            rotate_left
            · (intro w' hSw; obtain ⟨q0, q1⟩ := hSw; go_simp; all_goals with_reducible rfl)
            try simp only [Act.put, List.setIfInBounds_toArray, List.set_cons_zero, List.set_cons_succ]
            refine wpAnyH_ready (rs := [1]) (by kernel_rfl) (by simp) ?_
            refine AllReadyH.cons (o := { dst := some 83, op := Go.Op.call { callee := Go.Callee.value (Go.Operand.func 10), args := #[Go.Operand.const (Go.Value.int Go.IntKind.i64 1), Go.Operand.const (Go.Value.int Go.IntKind.i64 1)], argTypes := #[3, 3] }, type := 26, pos := "laws.go:982", after := #[], guard := none }) rfl (fun K hK => ?_) AllReadyH.nil
            go_simp
            go_at_call 10
            refine (HF11.out _).mono ?_
            rintro e w7 ⟨rfl, b7⟩
            have bs7 := Box.then (w := wo.drew) bs b7
            have hb7 := below_then (w := wo.drew) hb.drew hb.drew.size b7
            have s0 : w7.cell? ⟨gs, 0, none⟩ = some (.int .i64 1) := bs7.cell 0
            have s1 : w7.cell? ⟨gs, 1, none⟩ = some (.int .i64 1) := bs7.cell 1
            try go_wp2_with fail
            refine hK.out _ _ ⟨s0, s1⟩ (fun hHeld => ?_)
            clear hK K
            try simp only [Act.put, List.setIfInBounds_toArray, List.set_cons_zero, List.set_cons_succ]
            refine wpAnyH_take (i := 2) (oi := { dst := some 84, op := Go.Op.binOp Go.BinOp.eql 26 (Go.Operand.tmp 82) (Go.Operand.tmp 83) 26, type := 4, pos := "laws.go:982", after := #[{ on := 0, ground := Go.Ground.data }, { on := 1, ground := Go.Ground.data }], guard := none }) (v := ?_) rfl (by kernel_rfl) (by kernel_rfl) (by kernel_rfl) (fun _ _ _ h => h) (Or.inl ⟨by rfl, ?_⟩) ⟨s0, s1⟩ ?_
            rotate_left
            · (intro w' hSw; obtain ⟨q0, q1⟩ := hSw; go_simp; all_goals with_reducible rfl)
            try simp only [Act.put, List.setIfInBounds_toArray, List.set_cons_zero, List.set_cons_succ]
            refine wpAnyH_take (i := 3) (oi := { dst := some 85, op := Go.Op.move (Go.Operand.tmp 84), type := 4, pos := "laws.go:982", after := #[{ on := 2, ground := Go.Ground.data }, { on := 1, ground := Go.Ground.chain }], guard := none }) (v := ?_) rfl (by kernel_rfl) (by kernel_rfl) (by kernel_rfl) (fun _ _ _ h => h) (Or.inl ⟨by rfl, ?_⟩) ⟨s0, s1⟩ ?_
            rotate_left
            · (intro w' hSw; obtain ⟨q0, q1⟩ := hSw; go_simp; all_goals with_reducible rfl)
            try simp only [Act.put, List.setIfInBounds_toArray, List.set_cons_zero, List.set_cons_succ]
            refine wpAnyH_take (i := 4) (oi := { dst := some 86, op := Go.Op.move (Go.Operand.tmp 5), type := 9, pos := "laws.go:982", after := #[{ on := 3, ground := Go.Ground.guard }], guard := some (3, true) }) (v := ?_) rfl (by kernel_rfl) (by kernel_rfl) (by kernel_rfl) (fun _ _ _ h => h) (Or.inl ⟨by rfl, ?_⟩) ⟨s0, s1⟩ ?_
            rotate_left
            · (intro w' hSw; obtain ⟨q0, q1⟩ := hSw; go_simp; all_goals with_reducible rfl)
            try simp only [Act.put, List.setIfInBounds_toArray, List.set_cons_zero, List.set_cons_succ]
            refine wpAnyH_take (i := 5) (oi := { dst := some 87, op := Go.Op.binOp Go.BinOp.neq 9 (Go.Operand.tmp 86) (Go.Operand.const (Go.Value.string { data := #[114, 111, 111, 107] })) 9, type := 4, pos := "laws.go:982", after := #[{ on := 4, ground := Go.Ground.data }, { on := 3, ground := Go.Ground.guard }], guard := some (3, true) }) (v := .bool true) rfl (by kernel_rfl) (by kernel_rfl) (by kernel_rfl) (fun _ _ _ h => h) (Or.inl ⟨by rfl, ?_⟩) ⟨s0, s1⟩ ?_
            · (intro w' hSw; obtain ⟨q0, q1⟩ := hSw; go_simp; all_goals with_reducible rfl)
            try simp only [Act.put, List.setIfInBounds_toArray, List.set_cons_zero, List.set_cons_succ]
            refine wpAnyH_take (i := 6) (oi := { dst := some 88, op := Go.Op.move (Go.Operand.tmp 87), type := 4, pos := "laws.go:982", after := #[{ on := 5, ground := Go.Ground.data }, { on := 3, ground := Go.Ground.chain }, { on := 3, ground := Go.Ground.guard }], guard := some (3, true) }) (v := ?_) rfl (by kernel_rfl) (by kernel_rfl) (by kernel_rfl) (fun _ _ _ h => h) (Or.inl ⟨by rfl, ?_⟩) ⟨s0, s1⟩ ?_
            rotate_left
            · (intro w' hSw; obtain ⟨q0, q1⟩ := hSw; go_simp; all_goals with_reducible rfl)
            try simp only [Act.put, List.setIfInBounds_toArray, List.set_cons_zero, List.set_cons_succ]
            refine wpAnyH_take (i := 7) (oi := { dst := some 89, op := Go.Op.load 26 (Go.Operand.tmp 7), type := 26, pos := "laws.go:982", after := #[{ on := 6, ground := Go.Ground.guard }], guard := some (6, false) }) (v := undef) rfl (by kernel_rfl) (by kernel_rfl) (by kernel_rfl) (fun _ _ _ h => h) (Or.inr ⟨by rfl, rfl⟩) ⟨s0, s1⟩ ?_
            try simp only [Act.put, List.setIfInBounds_toArray, List.set_cons_zero, List.set_cons_succ]
            refine wpAnyH_take (i := 8) (oi := { dst := some 90, op := Go.Op.move (Go.Operand.tmp 3), type := 3, pos := "laws.go:982", after := #[{ on := 6, ground := Go.Ground.guard }], guard := some (6, false) }) (v := undef) rfl (by kernel_rfl) (by kernel_rfl) (by kernel_rfl) (fun _ _ _ h => h) (Or.inr ⟨by rfl, rfl⟩) ⟨s0, s1⟩ ?_
            try simp only [Act.put, List.setIfInBounds_toArray, List.set_cons_zero, List.set_cons_succ]
            refine wpAnyH_take (i := 9) (oi := { dst := some 91, op := Go.Op.move (Go.Operand.tmp 4), type := 3, pos := "laws.go:982", after := #[{ on := 6, ground := Go.Ground.guard }], guard := some (6, false) }) (v := undef) rfl (by kernel_rfl) (by kernel_rfl) (by kernel_rfl) (fun _ _ _ h => h) (Or.inr ⟨by rfl, rfl⟩) ⟨s0, s1⟩ ?_
            try simp only [Act.put, List.setIfInBounds_toArray, List.set_cons_zero, List.set_cons_succ]
            refine wpAnyH_take (i := 10) (oi := { dst := some 92, op := Go.Op.binOp Go.BinOp.mul 3 (Go.Operand.tmp 90) (Go.Operand.tmp 91) 3, type := 3, pos := "laws.go:982", after := #[{ on := 8, ground := Go.Ground.data }, { on := 9, ground := Go.Ground.data }, { on := 6, ground := Go.Ground.guard }], guard := some (6, false) }) (v := undef) rfl (by kernel_rfl) (by kernel_rfl) (by kernel_rfl) (fun _ _ _ h => h) (Or.inr ⟨by rfl, rfl⟩) ⟨s0, s1⟩ ?_
            try simp only [Act.put, List.setIfInBounds_toArray, List.set_cons_zero, List.set_cons_succ]
            refine wpAnyH_take (i := 11) (oi := { dst := some 93, op := Go.Op.call { callee := Go.Callee.value (Go.Operand.func 10), args := #[Go.Operand.const (Go.Value.int Go.IntKind.i64 1), Go.Operand.tmp 92], argTypes := #[3, 3] }, type := 26, pos := "laws.go:982", after := #[{ on := 10, ground := Go.Ground.data }, { on := 6, ground := Go.Ground.chain }, { on := 6, ground := Go.Ground.guard }], guard := some (6, false) }) (v := undef) rfl (by kernel_rfl) (by kernel_rfl) (by kernel_rfl) (fun _ _ _ h => h) (Or.inr ⟨by rfl, rfl⟩) ⟨s0, s1⟩ ?_
            try simp only [Act.put, List.setIfInBounds_toArray, List.set_cons_zero, List.set_cons_succ]
            refine wpAnyH_take (i := 12) (oi := { dst := some 94, op := Go.Op.binOp Go.BinOp.eql 26 (Go.Operand.tmp 89) (Go.Operand.tmp 93) 26, type := 4, pos := "laws.go:982", after := #[{ on := 7, ground := Go.Ground.data }, { on := 11, ground := Go.Ground.data }, { on := 6, ground := Go.Ground.guard }], guard := some (6, false) }) (v := undef) rfl (by kernel_rfl) (by kernel_rfl) (by kernel_rfl) (fun _ _ _ h => h) (Or.inr ⟨by rfl, rfl⟩) ⟨s0, s1⟩ ?_
            try simp only [Act.put, List.setIfInBounds_toArray, List.set_cons_zero, List.set_cons_succ]
            refine wpAnyH_take (i := 13) (oi := { dst := some 95, op := Go.Op.pick (Go.Operand.tmp 88) (Go.Operand.const (Go.Value.bool true)) (Go.Operand.tmp 94), type := 4, pos := "laws.go:982", after := #[{ on := 6, ground := Go.Ground.data }, { on := 12, ground := Go.Ground.data }, { on := 3, ground := Go.Ground.guard }], guard := some (3, true) }) (v := ?_) rfl (by kernel_rfl) (by kernel_rfl) (by kernel_rfl) (fun _ _ _ h => h) (Or.inl ⟨by rfl, ?_⟩) ⟨s0, s1⟩ ?_
            rotate_left
            · (intro w' hSw; obtain ⟨q0, q1⟩ := hSw; go_simp; all_goals with_reducible rfl)
            try simp only [Act.put, List.setIfInBounds_toArray, List.set_cons_zero, List.set_cons_succ]
            refine wpAnyH_take (i := 14) (oi := { dst := some 96, op := Go.Op.pick (Go.Operand.tmp 85) (Go.Operand.tmp 95) (Go.Operand.const (Go.Value.bool false)), type := 4, pos := "laws.go:982", after := #[{ on := 3, ground := Go.Ground.data }, { on := 13, ground := Go.Ground.data }], guard := none }) (v := ?_) rfl (by kernel_rfl) (by kernel_rfl) (by kernel_rfl) (fun _ _ _ h => h) (Or.inl ⟨by rfl, ?_⟩) ⟨s0, s1⟩ ?_
            rotate_left
            · (intro w' hSw; obtain ⟨q0, q1⟩ := hSw; go_simp; all_goals with_reducible rfl)
            try simp only [Act.put, List.setIfInBounds_toArray, List.set_cons_zero, List.set_cons_succ]
            refine wpAnyH_take (i := 15) (oi := { dst := some 2, op := Go.Op.assign (Go.Operand.tmp 96), type := 4, pos := "laws.go:982", after := #[{ on := 14, ground := Go.Ground.data }, { on := 11, ground := Go.Ground.chain }, { on := 0, ground := Go.Ground.phase }, { on := 1, ground := Go.Ground.phase }, { on := 2, ground := Go.Ground.phase }, { on := 3, ground := Go.Ground.phase }, { on := 4, ground := Go.Ground.phase }, { on := 5, ground := Go.Ground.phase }, { on := 6, ground := Go.Ground.phase }, { on := 7, ground := Go.Ground.phase }, { on := 8, ground := Go.Ground.phase }, { on := 9, ground := Go.Ground.phase }, { on := 10, ground := Go.Ground.phase }, { on := 11, ground := Go.Ground.phase }, { on := 12, ground := Go.Ground.phase }, { on := 13, ground := Go.Ground.phase }, { on := 14, ground := Go.Ground.phase }], guard := none }) (v := ?_) rfl (by kernel_rfl) (by kernel_rfl) (by kernel_rfl) (fun _ _ _ h => h) (Or.inl ⟨by rfl, ?_⟩) ⟨s0, s1⟩ ?_
            rotate_left
            · (intro w' hSw; obtain ⟨q0, q1⟩ := hSw; go_simp; all_goals with_reducible rfl)
            try simp only [Act.put, List.setIfInBounds_toArray, List.set_cons_zero, List.set_cons_succ]
            refine wpAnyH_done (by kernel_rfl) ?_ _
            go_wp2_with fail
            go_ret
            exact ⟨rfl, hb7⟩
end Go.Proofs.Ytoapmmmmdfmaeab
