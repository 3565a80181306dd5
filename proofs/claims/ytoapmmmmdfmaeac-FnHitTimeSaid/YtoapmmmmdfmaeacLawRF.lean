
/-
  The walk of the law FnHitTime, off the contracts of the program's functions (given).
-/
import Derived.Test.YtoapmmmmdfmaeacWalkG
import Derived.Test.YtoapmmmmdfmaeacDrawM
import Derived.Test.YtoapmmmmdfmaeacLawRW
import Derived.Test.YtoapmmmmdfmaeacGuardN
import Derived.Deep.RegionHeld3
namespace Go.Proofs.Ytoapmmmmdfmaeac
open Go.RowKit
set_option linter.unusedVariables false

theorem hit_law (bc br : Int) (s : ByteArray) (i k : Int) : hitV bc br s.toList i k = none ∨ (i = k ∧ hitV bc br s.toList i k = some (0, 1)) ∨
    ∃ (i' : Nat) (ss : List (Int × Int)) (far : Bool) (R : List Nat) (p : Nat × Nat) (Y S : Nat → Nat × Nat), i = (i' : Int) ∧ i ≠ k ∧ smallK bc br s.toList = some (ss, far) ∧ i' < (setsP bc br far ss).length ∧ reachU (setsP bc br far ss) i' = R ∧ hitV bc br s.toList i k = some p ∧
      1 ≤ R.length ∧ R.length ≤ 9 ∧ (∀ j, j < R.length → hitV bc br s.toList ((R[j]?.getD 0 : Nat) : Int) k = some (Y j) ∧ okF (Y j) = true ∧ okF (partP (Y j) R.length) = true ∧ okF (S j) = true ∧ S (j + 1) = plusP (S j) (partP (Y j) R.length)) ∧ S 0 = (1, 1) ∧ S R.length = p := by
  cases hk : smallK bc br s.toList with
  | none =>
    unfold hitV
    rw [hk]
    exact .inl rfl
  | some z =>
    obtain ⟨ss, far⟩ := z
    obtain ⟨hS, hkk⟩ := smallK_some hk
    obtain ⟨a, b, n, hW⟩ := walk_of hS hkk
    have hV : ∀ u v, hitV bc br s.toList u v = if (0 ≤ u ∧ u < bc * br) ∧ (0 ≤ v ∧ v < bc * br) then (hitOf (setsP bc br far ss)).map fun M => hAt M u.toNat v.toNat else none := fun u v => by
      unfold hitV
      rw [hk]
    by_cases hc : (0 ≤ i ∧ i < bc * br) ∧ (0 ≤ k ∧ k < bc * br)
    · cases hh : hitOf (setsP bc br far ss) with
      | none => rw [hV, if_pos hc, hh]; exact .inl rfl
      | some M =>
        rw [hh] at hV
        have hsz := hW.size
        have hln := hW.len
        have hn9 := hW.nine
        have hHI := hit_is hh
        obtain ⟨⟨c1, c2⟩, c3, c4⟩ := hc
        obtain ⟨i, rfl⟩ := Int.eq_ofNat_of_zero_le c1
        obtain ⟨k, rfl⟩ := Int.eq_ofNat_of_zero_le c3
        have hVN : ∀ u v : Nat, u < n → v < n → hitV bc br s.toList (u : Int) (v : Int) = some (hAt M u v) := fun u v hu hv => by
          rw [hV, if_pos (by omega), Option.map_some]
          simp only [Int.toNat_natCast]
        have hin : i < n := by omega
        have hkn : k < n := by omega
        by_cases hik : i = k
        · refine .inr (.inl ⟨by rw [hik], ?_⟩)
          rw [hVN i k hin hkn, hik, hHI.diag k (by omega)]
        · have hch := chance_of hh
          unfold chanceOk at hch
          simp only [Bool.and_eq_true, decide_eq_true_eq, beq_iff_eq] at hch
          obtain ⟨_, hall⟩ := hch
          have hA : ∀ u, u < n → ∀ v, v < n → okF (hAt M u v) = true ∧ ((u == v) = true ∨ lawOk (setsP bc br far ss) M u v = true) := fun u hu v hv => by
            have := List.all_eq_true.1 (List.all_eq_true.1 hall u (List.mem_range.2 (by omega))) v (List.mem_range.2 (by omega))
            simpa only [Bool.and_eq_true, Bool.or_eq_true] using this
          have hlaw : lawOk (setsP bc br far ss) M i k = true := by
            rcases (hA i hin k hkn).2 with h | h
            · exact absurd (beq_iff_eq.1 h) hik
            · exact h
          unfold lawOk at hlaw
          simp only [Bool.and_eq_true, decide_eq_true_eq, beq_iff_eq] at hlaw
          obtain ⟨⟨⟨g1, g2⟩, g3⟩, g4⟩ := hlaw
          obtain ⟨R, hR⟩ : ∃ R, reachU (setsP bc br far ss) i = R := ⟨_, rfl⟩
          rw [hR] at g1 g2 g3 g4
          have hRn : ∀ j, j < R.length → R[j]?.getD 0 < n := fun j hj => by
            have hm : R[j]?.getD 0 ∈ R := by rw [List.getElem?_eq_getElem hj]; exact List.getElem_mem hj
            rw [← hR] at hm ⊢
            have := List.mem_range.1 (List.mem_filter.1 hm).1
            omega
          have hRl : R.length ≤ 9 := by
            rw [← hR]
            have := List.length_filter_le (fun x => bitN ((setsP bc br far ss)[i]?.getD 0) x == 1) (List.range (setsP bc br far ss).length)
            rw [List.length_range] at this
            show (List.filter _ _).length ≤ 9
            omega
          refine .inr (.inr ⟨i, ss, far, R, hAt M i k, fun j => hAt M (R[j]?.getD 0) k, fun j => lawTo (setsP bc br far ss) M i k j, rfl, by omega, rfl, by omega, hR, hVN i k hin hkn, g1, hRl, fun j hj => ?_, rfl, g4⟩)
          refine ⟨hVN _ k (hRn j hj) hkn, (hA _ (hRn j hj) k hkn).1, List.all_eq_true.1 g3 j (List.mem_range.2 hj), List.all_eq_true.1 g2 j (List.mem_range.2 (by omega)), ?_⟩
          show plusP _ (partP (hAt M ((reachU (setsP bc br far ss) i)[j]?.getD 0) k) (reachU (setsP bc br far ss) i).length) = _
          rw [hR]
    · unfold hitV
      rw [hk]
      simp only
      rw [if_neg hc]
      exact .inl rfl
set_option maxHeartbeats 8000000 in
set_option maxRecDepth 100000 in
theorem hitTime_w (HI : ∀ (bc br : Int) (s : ByteArray) (i k : Int) (w5 : World), Calls Try.prog 7 #[.int .i64 bc, .int .i64 br, .string s, .int .i64 i, .int .i64 k] w5 (Plain (optF (hitV bc br s.toList i k)) w5))
    (HR : ∀ (bc br : Int) (s : ByteArray) (ss : List (Int × Int)) (far : Bool) (i : Nat) (w5 : World), smallK bc br s.toList = some (ss, far) → i < (setsP bc br far ss).length → Calls Try.prog 10 #[.int .i64 bc, .int .i64 br, .string s, .int .i64 (i : Int), .slice none 0 0] w5 (Owns 3 1 (reachU (setsP bc br far ss) i).length (ints (natI (reachU (setsP bc br far ss) i))) w5))
    (A : Option Addr) (n c : Nat) (w : World) (h : Code w A n c) : Calls Try.prog 3 #[.slice A n c] w (Plain (.bool true) w) := by
  by_cases hl : 1048576 < (n : Int)
  · go_enter Try.func3, Try.ntmps3
    go_wp2
    go_ret
    exact ⟨rfl, Below.refl _ _⟩
  · have HC := hide (drawHitTime_c A n c w h)
    have HI := hide HI
    have HR := hide HR
    clear h
    go_enter Try.func3, Try.ntmps3
    go_wp2_with fail
    refine HC.out.mono ?_
    rintro e w1 ⟨bc, br, i, k, s, rfl, -, -, -, -, -, b1⟩
    have HI1 := hide (fun w5 => HI.out bc br s i k w5)
    have HS1 := hide (fun w5 => specHitTime_c bc br s i k w5)
    have HF01 := hide (fun w5 => show Calls Try.prog _ #[.int .i64 0, .int .i64 1] w5 (Plain (fracV (0, 1)) w5) from fracOf_c 0 1 w5 (by omega) ⟨by omega, by omega⟩)
    have HF11 := hide (fun w5 => show Calls Try.prog _ #[.int .i64 1, .int .i64 1] w5 (Plain (fracV (1, 1)) w5) from fracOf_c 1 1 w5 (by omega) ⟨by omega, by omega⟩)
    clear HC
    rcases hit_law bc br s i k with hn | ⟨rfl, hp⟩ | ⟨i, ss, far, R, p, Y, S, rfl, hik, hsm, hil, hRU, hp, h1, h9, hY, hS0, hSR⟩
    · rw [hn] at HI1 HS1
      have ho : optF none = .tuple #[.agg #[.int .i64 0, .int .i64 0], .bool false] := rfl
      rw [ho] at HI1 HS1
      clear hn HI HR HF01 HF11
      go_wp2_with fail
      refine (HI1.out _).mono ?_
      rintro e w2 ⟨rfl, b2⟩
      have b12 := below_then b1 b1.size b2
      have bw := Box.new w2 26 #[.int .i64 0, .int .i64 0]
      have b12 := b12.alloc b12.size (.cells #[.int .i64 0, .int .i64 0] 26)
      go_wp2_with fail
      refine (HS1.out _).mono ?_
      rintro e w3 ⟨rfl, b3⟩
      have b13 := below_then b12 b12.size b3
      have bw := (bw.then b3).alloc (.cells #[.int .i64 0, .int .i64 0] 26)
      have bg := Box.new w3 26 #[.int .i64 0, .int .i64 0]
      have b13 := b13.alloc b13.size (.cells #[.int .i64 0, .int .i64 0] 26)
      have c0 := bw.cell 0
      have c1 := bw.cell 1
      have d0 := bg.cell 0
      have d1 := bg.cell 1
      go_wp2_with fail
      go_ret
      exact ⟨rfl, b13⟩
    · rw [hp] at HI1 HS1
      have ho : optF (some (0, 1)) = .tuple #[.agg #[.int .i64 0, .int .i64 1], .bool true] := rfl
      rw [ho] at HI1 HS1
      clear hp HI HR HF11
      go_wp2_with fail
      refine (HI1.out _).mono ?_
      rintro e w2 ⟨rfl, b2⟩
      have b12 := below_then b1 b1.size b2
      have bw := Box.new w2 26 #[.int .i64 0, .int .i64 1]
      have b12 := b12.alloc b12.size (.cells #[.int .i64 0, .int .i64 1] 26)
      obtain ⟨gx, egx⟩ : ∃ gx, w2.heap.size = gx := ⟨_, rfl⟩
      rw [egx] at bw
      go_wp2_with fail
      clear egx
      refine (HS1.out _).mono ?_
      rintro e w3 ⟨rfl, b3⟩
      have b13 := below_then b12 b12.size b3
      have bw := (bw.then b3).alloc (.cells #[.int .i64 0, .int .i64 1] 26)
      have bg := Box.new w3 26 #[.int .i64 0, .int .i64 1]
      have b13 := b13.alloc b13.size (.cells #[.int .i64 0, .int .i64 1] 26)
      have c0 : (w3.alloc (.cells #[.int .i64 0, .int .i64 1] 26)).cell? ⟨gx, 0, none⟩ = some (.int .i64 0) := bw.cell 0
      have c1 : (w3.alloc (.cells #[.int .i64 0, .int .i64 1] 26)).cell? ⟨gx, 1, none⟩ = some (.int .i64 1) := bw.cell 1
      have d0 := bg.cell 0
      have d1 := bg.cell 1
      clear b12 b1 b2 b3
      go_wp2_with fail
      generalize w3.alloc (.cells #[.int .i64 0, .int .i64 1] 26) = wA at *
      clear d0 d1 bg
      go_region_held3 (fun w' => w'.cell? ⟨gx, 0, none⟩ = some (.int .i64 0) ∧ w'.cell? ⟨gx, 1, none⟩ = some (.int .i64 1)) (go_keep)
        (first
          | (go_at_call 9; refine (HF01.out _).mono ?_; rintro e w7 ⟨rfl, b7⟩
             have bx7 := Box.then (w := wA.drew) bw b7
             have hb7 := below_then (w := wA.drew) b13.drew b13.drew.size b7
             have t2 : w7.cell? ⟨gx, 0, none⟩ = some (.int .i64 0) := bx7.cell 0
             have t3 : w7.cell? ⟨gx, 1, none⟩ = some (.int .i64 1) := bx7.cell 1))
      go_wp2_with fail
      go_ret
      exact ⟨rfl, hb7⟩
    · have hn9 : R.length ≤ 9 := h9
      have HY := hide (fun j hj w5 => show Calls Try.prog _ #[.int .i64 bc, .int .i64 br, .string s, .int .i64 ((R[j]?.getD 0 : Nat) : Int), .int .i64 k] w5 (Plain (optF (some (Y j))) w5) by
        rw [← (hY j hj).1]; exact HI.out bc br s _ k w5)
      have HO := hide (fun j hj => (hY j hj).2)
      have HPL := hide (fun (x y : Nat × Nat) (w5 : World) hx hy => plusOf_c x y w5 hx hy)
      have HFP := hide (fun (f : Nat × Nat) (m : Nat) (h1 : f.1 ≤ 1000000000) (h2 : 1 ≤ f.2 ∧ f.2 ≤ 1000000000) (h3 : 1 ≤ m ∧ m ≤ 9) (w5 : World) => show Calls Try.prog _ #[.int .i64 (f.1 : Int), .int .i64 ((f.2 * m : Nat) : Int)] w5 (Plain (fracV (partP f m)) w5) from
        fracOf_c f.1 (f.2 * m) w5 (by omega) ⟨Nat.mul_pos h2.1 h3.1, Nat.le_trans (Nat.mul_le_mul h2.2 h3.2) (by decide)⟩)
      have HRc := hide (fun w5 => show Calls Try.prog _ #[.int .i64 bc, .int .i64 br, .string s, .int .i64 (i : Int), .slice none 0 0] w5 (Owns 3 1 R.length (ints (natI R)) w5) by
        have := HR.out bc br s ss far i w5 hsm hil
        rwa [hRU] at this)
      rw [hp] at HI1 HS1
      have HS0 := hide hS0
      have HSR := hide hSR
      have tik : ((i : Int) == k) = false := by rw [beq_eq_false_iff_ne]; exact hik
      obtain ⟨x, y⟩ := p
      have ho1 : optF (some (x, y)) = .tuple #[.agg #[.int .i64 (x : Int), .int .i64 (y : Int)], .bool true] := rfl
      rw [ho1] at HI1 HS1
      have hRl := natI_len R
      clear hp ho1 HI HR hS0 hSR hY hsm hil hRU hik h9 HF01
      go_wp2_with fail
      refine (HI1.out _).mono ?_
      rintro e w2 ⟨rfl, b2⟩
      have b12 := below_then b1 b1.size b2
      have bw := Box.new w2 26 #[.int .i64 (x : Int), .int .i64 (y : Int)]
      have b12 := b12.alloc b12.size (.cells #[.int .i64 (x : Int), .int .i64 (y : Int)] 26)
      obtain ⟨gx, egx⟩ : ∃ gx, w2.heap.size = gx := ⟨_, rfl⟩
      rw [egx] at bw
      go_wp2_with fail
      clear egx
      refine (HS1.out _).mono ?_
      rintro e w3 ⟨rfl, b3⟩
      have b13 := below_then b12 b12.size b3
      have bw := (bw.then b3).alloc (.cells #[.int .i64 (x : Int), .int .i64 (y : Int)] 26)
      have bg := Box.new w3 26 #[.int .i64 (x : Int), .int .i64 (y : Int)]
      have b13 := b13.alloc b13.size (.cells #[.int .i64 (x : Int), .int .i64 (y : Int)] 26)
      have c0 := bw.cell 0
      have c1 := bw.cell 1
      have d0 := bg.cell 0
      have d1 := bg.cell 1
      go_wp2_with fail
      clear bg c0 c1 d0 d1 b1 b2 b3 b12
      refine (HRc.out _).mono ?_
      rintro e w4 ⟨v4, rfl, o4, b4⟩
      obtain ⟨A4, c4, rfl, _⟩ := own_row o4
      have bw4 := bw.then b4
      have b14 := below_then b13 b13.size b4
      have R4 := own_reads o4
      clear o4 bw b13 b4
      go_wp2_with fail
      refine (HF11.out _).mono ?_
      rintro e w5 ⟨rfl, b5⟩
      have b15 := below_then b14 b14.size b5
      have bw5 := (bw4.then b5).alloc (.cells #[.int .i64 1, .int .i64 1] 26)
      have hgxs := (bw4.then b5).in_
      have bs5 := Box.new w5 26 #[.int .i64 1, .int .i64 1]
      have hgs := b15.size
      have hb5 := b15.alloc b15.size (.cells #[.int .i64 1, .int .i64 1] 26)
      obtain ⟨ad, rfl, hck0⟩ := (R4.below b5).int (k := 0) (by rw [hRl]; omega)
      have hadb := World.block_lt_of_cell? w5 _ hck0
      rw [addr_block] at hadb
      have R5 := (R4.below b5).alloc (.cells #[.int .i64 1, .int .i64 1] 26)
      clear bw4 b14 R4 b5 b15 hck0
      go_wp2_with fail
      obtain ⟨gs, egs⟩ : ∃ gs, w5.heap.size = gs := ⟨_, rfl⟩
      rw [egs] at bs5 hgs hgxs hadb
      rw [egs]
      clear egs
      go_loopw [14] (fun jv wr => ∃ j : Nat, j ≤ R.length ∧ jv = .int .i64 (j : Int) ∧ Box wr gs 26 #[.int .i64 ((S j).1 : Int), .int .i64 ((S j).2 : Int)] ∧ Box wr gx 26 #[.int .i64 (x : Int), .int .i64 (y : Int)] ∧ Row wr (some ad) (ints (natI R)) ∧ Below w.heap.size w wr) (fun jv _ => R.length - (intOf jv).toNat)
      case atStart => exact ⟨0, Nat.zero_le _, rfl, by rw [HS0.out]; exact bs5, bw5, R5, hb5⟩
      case round =>
        clear bs5 bw5 R5 hb5
        obtain ⟨j, hjn, rfl, bs, bx, hrow, hb⟩ := hrel
        obtain ⟨wo, rfl⟩ : ∃ wo : World, wo = wr := ⟨_, rfl⟩
        by_cases hjl : j < R.length
        · have j0 : (0 : Int) ≤ (j : Int) := by omega
          have j1 : (j : Int) < (R.length : Int) := by omega
          have HJ := hide hjl
          have HJ9 := hide (show (j : Int) ≤ 9 by omega)
          obtain ⟨_, ⟨rfl⟩, hck⟩ := hrow.int (k := j) (by rw [hRl]; exact hjl)
          rw [natI_at] at hck
          have HYj := hide (HY.out j hjl)
          obtain ⟨ok1, ok2, ok3, ok4⟩ := HO.out j hjl
          obtain ⟨⟨x1, x2⟩, x3⟩ := okF_is ok1
          have HFx := hide (fun w5 => HFP.out (Y j) R.length x3 ⟨x1, x2⟩ ⟨h1, hn9⟩ w5)
          have HPx := hide (fun w5 => HPL.out (S j) (partP (Y j) R.length) w5 ok3 ok2)
          have HSE := hide ok4
          have hmm : (Y j).2 * R.length ≤ 1000000000 * 9 := Nat.mul_le_mul x2 hn9
          have em : IntKind.i64.wrap (((Y j).2 : Int) * (R.length : Int)) = (((Y j).2 * R.length : Nat) : Int) := (IntWalk.i64_in _ (by rw [← Int.natCast_mul]; omega)).trans (Int.natCast_mul _ _).symm
          obtain ⟨fp, hfp⟩ : ∃ fp, (Y j).2 * R.length = fp := ⟨_, rfl⟩
          rw [hfp] at em HFx
          obtain ⟨f, hf⟩ : ∃ f, Y j = f := ⟨_, rfl⟩
          rw [hf] at em HFx HPx HYj HSE
          obtain ⟨f1, f2⟩ := f
          simp only at em HFx
          have ho2 : optF (some (f1, f2)) = .tuple #[.agg #[.int .i64 (f1 : Int), .int .i64 (f2 : Int)], .bool true] := rfl
          rw [ho2] at HYj
          clear ho2 ok1 ok2 ok3 ok4 x1 x2 x3 hmm hfp hf HO HPL HY HFP HS0 HSR
          generalize partP (f1, f2) R.length = pv at *
          obtain ⟨sv, hsv⟩ : ∃ sv, S j = sv := ⟨_, rfl⟩
          rw [hsv] at bs HPx HSE
          clear hsv
          generalize plusP sv pv = nv at *
          generalize R[j]?.getD 0 = rj at *
          go_wp2_with fail
          refine (HYj.out _).mono ?_
          rintro e w7 ⟨rfl, b7⟩
          have bs7 := (bs.then b7).alloc (.cells #[.int .i64 (f1 : Int), .int .i64 (f2 : Int)] 26)
          have bx7 := (bx.then b7).alloc (.cells #[.int .i64 (f1 : Int), .int .i64 (f2 : Int)] 26)
          have hr7 := (hrow.below b7).alloc (.cells #[.int .i64 (f1 : Int), .int .i64 (f2 : Int)] 26)
          have hb7 := (below_then hb hb.size b7).alloc (below_then hb hb.size b7).size (.cells #[.int .i64 (f1 : Int), .int .i64 (f2 : Int)] 26)
          have bn7 := Box.new w7 26 #[.int .i64 (f1 : Int), .int .i64 (f2 : Int)]
          clear bs bx hrow hb b7 hck
          go_wp2_with fail
          generalize w7.alloc (.cells #[.int .i64 (f1 : Int), .int .i64 (f2 : Int)] 26) = wA at *
          obtain ⟨gn, hgn⟩ : ∃ gn, w7.heap.size = gn := ⟨_, rfl⟩
          rw [hgn] at bn7
          rw [hgn]
          have s0 := bs7.cell 0
          have s1 := bs7.cell 1
          have n0 := bn7.cell 0
          have n1 := bn7.cell 1
          clear HYj j0 j1 h1 hn9 hRl hjl hjn hgn
          go_region_with (first
            | (go_at_call 9; refine (HFx.out _).mono ?_; rintro e w8 ⟨rfl, b8⟩; have bs8 := Box.then (w := wA.drew) bs7 b8; have bx8 := Box.then (w := wA.drew) bx7 b8; have hr8 := Row.below (w := wA.drew) hr7 b8; have hb8 := below_then (w := wA.drew) hb7.drew hb7.drew.size b8; have t0 := bs8.cell 0; have t1 := bs8.cell 1)
            | (go_at_call 11; refine (HPx.out _).mono ?_; rintro e w9 ⟨rfl, b9⟩; have bs9 := bs8.then b9; have bx9 := bx8.then b9; have hr9 := hr8.below b9; have hb9 := below_then hb8 hb8.size b9; obtain ⟨c0, g0, c1, g1, c2, g2, bsx, hbx⟩ := frac_put bs9 hb9 hgs (.int .i64 (nv.1 : Int)) (.int .i64 (nv.2 : Int))))
          all_goals have hj9 := HJ9.out
          all_goals have hj0 : (0 : Int) ≤ (j : Int) := Int.natCast_nonneg j
          all_goals go_wp2_with fail
          all_goals exact ⟨⟨j + 1, HJ.out, by go_num, by rw [HSE.out]; exact bsx, (bx9.other (p := ⟨gs, 0, none⟩) (by simp only; omega) _).other (p := ⟨gs, 1, none⟩) (by simp only; omega) _, row_setW (row_setW hr9 (fun ad' e => by injection e with e; subst e; omega) 0 _) (fun ad' e => by injection e with e; subst e; omega) 1 _, hbx⟩, by have := HJ.out; simp [intOf]; omega⟩
        · obtain rfl : j = R.length := by omega
          rw [HSR.out] at bs
          have s0 := bs.cell 0
          have s1 := bs.cell 1
          have x0 := bx.cell 0
          have x1 := bx.cell 1
          clear HO HPL HY HFP HS0 HSR
          go_wp2_with fail
          go_ret
          exact ⟨rfl, hb⟩
end Go.Proofs.Ytoapmmmmdfmaeac
