/-
  LawTA, LawTB, LawTF in one text.
-/
import Derived.Test.YtnikgnicjbcbmaaDoorDrawT
import Derived.Test.YtnikgnicjbcbmaaDoorTileO
import Derived.Test.YtnikgnicjbcbmaaDoorCodeWords
import Derived.Test.YtnikgnicjbcbmaaDoorTileY
import Derived.Deep.RegionHeld3
import Derived.BigQuiet
/-
  The walk of the law FnTileCount, whatever the program's contracts are proved by.
-/
namespace Go.Proofs.YtnikgnicjbcbmaaDoor
open Go.RowKit
set_option linter.unusedVariables false

/-- What a function of a board with holes answers. -/
def HoleFn (f : Nat) : Prop := ∀ (bc br : Int) (A : Option Addr) (c : Nat) (hs : List Int) (W : World), Row W A (ints hs) → hs.length ≤ maxLen → Calls Tryd.prog f #[.int .i64 bc, .int .i64 br, .slice A hs.length c] W (Plain (.int .i64 (coversP bc br hs)) W)

/-- The same in worlds of which T holds. -/
def HoleFnT (T : World → Prop) (f : Nat) : Prop := ∀ (bc br : Int) (A : Option Addr) (c : Nat) (hs : List Int) (W : World), T W → Row W A (ints hs) → hs.length ≤ maxLen → Calls Tryd.prog f #[.int .i64 bc, .int .i64 br, .slice A hs.length c] W (Plain (.int .i64 (coversP bc br hs)) W)

set_option maxHeartbeats 1000000 in
set_option maxRecDepth 100000 in
theorem tileCount_w (T : World → Prop) (hTb : ∀ w w', T w → Below w.heap.size w w' → T w') (HI : HoleFnT T 7) (HJ : HoleFn 9) (A : Option Addr) (n c : Nat) (w : World) (hT : T w) (h : Code w A n c) : Calls Tryd.prog 3 #[.slice A n c] w (Plain (.bool true) w) := by
  by_cases hl : 1048576 < (n : Int)
  · go_enter Tryd.func3, Tryd.ntmps3
    go_wp2
    go_ret
    exact ⟨rfl, Below.refl _ _⟩
  · have HC := hide (drawTileCount_c A n c w h)
    clear h
    have HII := hide HI
    have HJJ := hide HJ
    have HTT := hide (fun w5 (h5 : Below w.heap.size w w5) => hTb w w5 hT h5)
    clear HI HJ hTb hT
    go_enter Tryd.func3, Tryd.ntmps3
    go_wp2_with fail
    refine HC.out.mono ?_
    rintro e w1 ⟨bc, br, v, hs, rfl, hx, hy, hown, hhl, b1⟩
    obtain ⟨Ah, ch, rfl, _⟩ := own_row hown
    have hm : hs.length ≤ maxLen := by unfold maxLen; omega
    have zb := b1.size
    have HIs := hide (fun (w5 : World) (h5 : Below w1.heap.size w1 w5) => HII.out bc br Ah ch hs w5 (HTT.out _ (below_then b1 zb h5)) ((own_reads hown).below h5) hm)
    have HSs := hide (fun (w5 : World) (h5 : Below w1.heap.size w1 w5) => tileCount_c bc br Ah ch hs w5 ((own_reads hown).below h5) hm)
    have HJs := hide (fun (w5 : World) (h5 : Below w1.heap.size w1 w5) => HJJ.out bc br Ah ch hs w5 ((own_reads hown).below h5) hm)
    by_cases hH : Holes bc br hs
    · obtain ⟨⟨h1, h2, h3, h4⟩, ha⟩ := id hH
      obtain ⟨x, rfl⟩ := Int.eq_ofNat_of_zero_le (show 0 ≤ bc by omega)
      obtain ⟨y, rfl⟩ := Int.eq_ofNat_of_zero_le (show 0 ≤ br by omega)
      have hX : coversP (x : Int) (y : Int) hs = ((tileT x (x * y) (x * y) (inL hs) : Nat) : Int) := by unfold coversP; rw [if_pos hH]; rfl
      have hmem := asc_mem ha
      rw [← Int.natCast_mul] at hmem
      have hfr := free_list (n := x * y) hs (asc_nodup ha) hmem
      have hodd := tile_odd (w := x) (h := y) ⟨by omega, by omega⟩ ⟨by omega, by omega⟩ (g := inL hs)
      have hn25 : x * y ≤ 25 := Nat.mul_le_mul (show x ≤ 5 by omega) (show y ≤ 5 by omega)
      have emul : IntKind.i64.wrap ((x : Int) * (y : Int)) = ((x * y : Nat) : Int) := by rw [Int.natCast_mul]; exact IntWalk.i64_in _ (by rw [← Int.natCast_mul]; omega)
      rw [hX] at HIs HSs HJs
      clear hX hH ha hmem h1 h2 h3 h4
      generalize freeN (fun _ => true) (inL hs) (x * y) = fr at *
      generalize tileT x (x * y) (x * y) (inL hs) = X at *
      generalize x * y = n' at *
      have hXX : ((X : Int) != (X : Int)) = false := by simp
      have X0 : (0 : Int) ≤ (X : Int) := by omega
      have esub : IntKind.i64.wrap ((n' : Int) - (hs.length : Int)) = (fr : Int) := (IntWalk.i64_in _ (by omega)).trans (by omega)
      have t1 : Int.tmod (fr : Int) 2 = ((fr % 2 : Nat) : Int) := rfl
      rcases Nat.mod_two_eq_zero_or_one fr with hp | hp
      · rw [hp] at t1
        clear hodd hfr hown
        go_wp2_with fail
        refine (HIs.out _ (Below.refl _ _)).mono ?_
        rintro e w2 ⟨rfl, b2⟩
        go_wp2_with fail
        refine (HSs.out _ b2).mono ?_
        rintro e w3 ⟨rfl, b3⟩
        have b3 := below_then b2 b2.size b3
        go_wp2_with fail
        refine (HJs.out _ b3).mono ?_
        rintro e w4 ⟨rfl, b4⟩
        have b4 := below_then b1 zb (below_then b3 b3.size b4)
        go_wp2_with fail
        go_ret
        exact ⟨rfl, b4⟩
      · rw [hp] at t1
        obtain rfl : X = 0 := hodd hp
        clear hodd hfr hown
        go_wp2_with fail
        refine (HIs.out _ (Below.refl _ _)).mono ?_
        rintro e w2 ⟨rfl, b2⟩
        go_wp2_with fail
        refine (HSs.out _ b2).mono ?_
        rintro e w3 ⟨rfl, b3⟩
        have b3 := below_then b2 b2.size b3
        go_wp2_with fail
        refine (HJs.out _ b3).mono ?_
        rintro e w4 ⟨rfl, b4⟩
        have b4 := below_then b1 zb (below_then b3 b3.size b4)
        go_wp2_with fail
        go_ret
        exact ⟨rfl, b4⟩
    · have hX : coversP bc br hs = -1 := by unfold coversP; rw [if_neg hH]
      rw [hX] at HIs HSs
      clear hX hH HJs hown
      go_wp2_with fail
      refine (HIs.out _ (Below.refl _ _)).mono ?_
      rintro e w2 ⟨rfl, b2⟩
      go_wp2_with fail
      refine (HSs.out _ b2).mono ?_
      rintro e w3 ⟨rfl, b3⟩
      have b3 := below_then b2 b2.size b3
      go_wp2_with fail
      refine (HSs.out _ b3).mono ?_
      rintro e w4 ⟨rfl, b4⟩
      have b4 := below_then b1 zb (below_then b3 b3.size b4)
      go_wp2_with fail
      go_ret
      exact ⟨rfl, b4⟩
end Go.Proofs.YtnikgnicjbcbmaaDoor

/-
  The walk of the law FnTileBySigns, whatever the program's contracts are proved by.
-/
namespace Go.Proofs.YtnikgnicjbcbmaaDoor
open Go.RowKit
set_option linter.unusedVariables false

/-- What a function of a board answers. -/
def SideFn (T : World → Prop) (f : Nat) : Prop := ∀ (bc br : Int) (W : World), T W → Calls Tryd.prog f #[.int .i64 bc, .int .i64 br] W (Plain (.int .i64 (signsP bc br)) W)
theorem covers_none {bc br : Int} (h : Brd bc br) : coversP bc br [] = signsP bc br := by
  have hH : Holes bc br [] := ⟨h, fun i hi => absurd hi (by simp)⟩
  unfold coversP signsP
  rw [if_pos hH, if_pos h, show inL [] = fun _ => false from funext fun i => rfl, tile_rows ⟨by have := h.1; omega, by have := h.2.1; omega⟩]
theorem signs_turn {bc br : Int} (h : Brd bc br) : signsP br bc = signsP bc br := by
  unfold signsP
  rw [if_pos h, if_pos ⟨h.2.2.1, h.2.2.2, h.1, h.2.1⟩]
  obtain ⟨h1, h2, h3, h4⟩ := h
  have := (signs_is (w := bc.toNat) (h := br.toNat) ⟨by omega, by omega⟩ ⟨by omega, by omega⟩).turn
  rw [this]
theorem signs_bd {bc br : Int} (h : Brd bc br) : 0 ≤ signsP bc br ∧ signsP bc br ≤ 1000000 := by
  unfold signsP
  rw [if_pos h]
  obtain ⟨h1, h2, h3, h4⟩ := h
  have := (signs_is (w := bc.toNat) (h := br.toNat) ⟨by omega, by omega⟩ ⟨by omega, by omega⟩).bd
  omega

end Go.Proofs.YtnikgnicjbcbmaaDoor

/-
  The walk of the law FnHolesOfOneColour, whatever the program's contracts are proved by.
-/
namespace Go.Proofs.YtnikgnicjbcbmaaDoor
open Go.RowKit
set_option linter.unusedVariables false

theorem covers_two {x y a b : Nat} (hx : 1 ≤ x ∧ x ≤ 5) (hy : 1 ≤ y ∧ y ≤ 5) (he : (x * y) % 2 = 0) (hb : b < a) (ha : a < x * y) (hc : (a / x + a % x + b / x + b % x) % 2 = 0) : coversP (x : Int) (y : Int) [(b : Int), (a : Int)] = 0 := by
  have hH : Holes (x : Int) (y : Int) [(b : Int), (a : Int)] := by
    refine ⟨⟨by omega, by omega, by omega, by omega⟩, fun i hi => ?_⟩
    rw [← Int.natCast_mul]
    match i, hi with
    | 0, _ => simp; omega
    | 1, _ => simp; omega
    | i + 2, hi => exact absurd hi (by simp)
  unfold coversP
  rw [if_pos hH]
  simp only [Int.toNat_natCast]
  have hi : inL [(b : Int), (a : Int)] = cov (fun _ => false) b a := funext fun i => by
    simp only [inL, cov, List.contains_cons, List.contains_nil, Bool.or_false, Bool.false_or]
    rw [Bool.eq_iff_iff]
    simp
    omega
  have hcol : colG x b = colG x a := by
    unfold colG
    rw [Bool.eq_iff_iff, beq_iff_eq, beq_iff_eq]
    generalize a / x = p at *
    generalize a % x = q at *
    generalize b / x = r at *
    generalize b % x = s at *
    omega
  rw [hi, tile_two hx hy he (by omega) ha (by omega) hcol]
  rfl

set_option maxHeartbeats 2000000 in
set_option maxRecDepth 100000 in
theorem holesOfOneColour_w (T : World → Prop) (hTb : ∀ w w', T w → Below w.heap.size w w' → T w') (HI : HoleFnT T 7) (HJ : HoleFn 9) (A : Option Addr) (n c : Nat) (w : World) (hT : T w) (h : Code w A n c) : Calls Tryd.prog 4 #[.slice A n c] w (Plain (.bool true) w) := by
  by_cases hl : 1048576 < (n : Int)
  · go_enter Tryd.func4, Tryd.ntmps4
    go_wp2
    go_ret
    exact ⟨rfl, Below.refl _ _⟩
  · have HC := hide (drawTileCount_c A n c w h)
    clear h
    have HII := hide HI
    have HJJ := hide HJ
    have HTT := hide (fun w5 (h5 : Below w.heap.size w w5) => hTb w w5 hT h5)
    clear HI HJ hTb hT
    go_enter Tryd.func4, Tryd.ntmps4
    go_wp2_with fail
    refine HC.out.mono ?_
    rintro e w1 ⟨bc, br, v, hs, rfl, hx, hy, hown, hhl, b1⟩
    obtain ⟨Ah, ch, rfl, _⟩ := own_row hown
    have hm : hs.length ≤ maxLen := by unfold maxLen; omega
    have zb := b1.size
    have HIs := hide (fun (w5 : World) (h5 : Below w1.heap.size w1 w5) => HII.out bc br Ah ch hs w5 (HTT.out _ (below_then b1 zb h5)) ((own_reads hown).below h5) hm)
    have HSs := hide (fun (w5 : World) (h5 : Below w1.heap.size w1 w5) => tileCount_c bc br Ah ch hs w5 ((own_reads hown).below h5) hm)
    have HNs := hide (fun (w5 : World) (h5 : Below w1.heap.size w1 w5) => HII.out bc br none 0 [] w5 (HTT.out _ (below_then b1 zb h5)) (Row.empty _ _) (by simp [maxLen]))
    generalize coversP bc br hs = X at *
    have hXX : (X != X) = false := by simp
    have hh0 : (0 : Int) ≤ (hs.length : Int) := by omega
    have hge : decide ((hs.length : Int) ≥ 0) = true := by simp
    clear hown
    by_cases hB : Brd bc br
    · have h1 := (signs_bd hB).1
      rw [covers_none hB] at HNs
      have hneg : decide (signsP bc br < 0) = false := by simp; omega
      generalize signsP bc br = Y at *
      obtain ⟨h1, h2, h3, h4⟩ := hB
      obtain ⟨x, rfl⟩ := Int.eq_ofNat_of_zero_le (show 0 ≤ bc by omega)
      obtain ⟨y, rfl⟩ := Int.eq_ofNat_of_zero_le (show 0 ≤ br by omega)
      have hxx : 1 ≤ x ∧ x ≤ 5 := by omega
      have hyy : 1 ≤ y ∧ y ≤ 5 := by omega
      have hn25 : x * y ≤ 25 := Nat.mul_le_mul hxx.2 hyy.2
      have emul : IntKind.i64.wrap ((x : Int) * (y : Int)) = ((x * y : Nat) : Int) := by rw [Int.natCast_mul]; exact IntWalk.i64_in _ (by rw [← Int.natCast_mul]; omega)
      have HR := hide (fun (a b : Nat) (he : (x * y) % 2 = 0) (hb : b < a) (ha : a < x * y) (hc : (a / x + a % x + b / x + b % x) % 2 = 0) (A : Option Addr) (w5 : World) (h5 : Row w5 A (ints [(b : Int), (a : Int)])) => show Calls Tryd.prog 9 #[.int .i64 (x : Int), .int .i64 (y : Int), .slice A 2 2] w5 (Plain (.int .i64 0) w5) by
        have := HJJ.out (x : Int) (y : Int) A 2 [(b : Int), (a : Int)] w5 h5 (by simp [maxLen])
        rw [covers_two hxx hyy he hb ha hc] at this
        exact this)
      have x1 : 1 ≤ x := hxx.1
      have x5 : x ≤ 5 := hxx.2
      have hw0 : (x : Int) ≠ 0 := by omega
      have hw1 : x ≠ 0 := by omega
      clear hxx hyy h1 h2 h3 h4 HC HII HJJ
      generalize x * y = N' at *
      have t1 : Int.tmod (N' : Int) 2 = ((N' % 2 : Nat) : Int) := rfl
      rcases Nat.mod_two_eq_zero_or_one N' with hp | hp
      · rw [hp] at t1
        go_wp2_with fail
        refine (HIs.out _ (Below.refl _ _)).mono ?_
        rintro e w2 ⟨rfl, b2⟩
        go_wp2_with fail
        refine (HSs.out _ b2).mono ?_
        rintro e w3 ⟨rfl, b3⟩
        have b3 := below_then b2 b2.size b3
        go_wp2_with fail
        refine (HNs.out _ b3).mono ?_
        rintro e w4 ⟨rfl, b4⟩
        have b4 := below_then b1 zb (below_then b3 b3.size b4)
        have HR := hide (fun (a b : Nat) => HR.out a b hp)
        clear HIs HSs HNs b2 b3 HTT
        go_wp2_with fail
        go_loopw [6] (fun i wr => ∃ a : Nat, a ≤ N' ∧ i = .int .i64 (a : Int) ∧ Below w.heap.size w wr) (fun i _ => N' - (intOf i).toNat)
        case atStart => exact ⟨0, Nat.zero_le _, rfl, b4⟩
        case round =>
          obtain ⟨a, han, rfl, hb⟩ := hrel
          obtain ⟨wo, rfl⟩ : ∃ wo : World, wo = wr := ⟨_, rfl⟩
          by_cases hlt : a < N'
          · go_wp2_with fail
            go_loopw [7] (fun i wr => ∃ b : Nat, b ≤ a ∧ i = .int .i64 (b : Int) ∧ Below w.heap.size w wr) (fun i _ => a - (intOf i).toNat)
            case atStart => exact ⟨0, Nat.zero_le _, rfl, hb⟩
            case round =>
              obtain ⟨b, hba, rfl, hbb⟩ := hrel
              obtain ⟨wi, rfl⟩ : ∃ wi : World, wi = wr := ⟨_, rfl⟩
              have zi := hbb.size
              by_cases hlt2 : b < a
              · have HRb := hide (HR.out a b hlt2 hlt)
                have ta1 : Int.tdiv (a : Int) (x : Int) = ((a / x : Nat) : Int) := rfl
                have ta2 : Int.tmod (a : Int) (x : Int) = ((a % x : Nat) : Int) := rfl
                have tb1 : Int.tdiv (b : Int) (x : Int) = ((b / x : Nat) : Int) := rfl
                have tb2 : Int.tmod (b : Int) (x : Int) = ((b % x : Nat) : Int) := rfl
                have d1 := Nat.div_le_self a x
                have d2 := Nat.mod_le a x
                have d3 := Nat.div_le_self b x
                have d4 := Nat.mod_le b x
                generalize a / x = da at *
                generalize a % x = ma at *
                generalize b / x = db at *
                generalize b % x = mb at *
                have e1 : IntKind.i64.wrap (da : Int) = (da : Int) := IntWalk.i64_in _ (by omega)
                have e2 : IntKind.i64.wrap (ma : Int) = (ma : Int) := IntWalk.i64_in _ (by omega)
                have e3 : IntKind.i64.wrap (db : Int) = (db : Int) := IntWalk.i64_in _ (by omega)
                have e4 : IntKind.i64.wrap (mb : Int) = (mb : Int) := IntWalk.i64_in _ (by omega)
                obtain ⟨p1, hp1⟩ : ∃ p1, da + ma = p1 := ⟨_, rfl⟩
                obtain ⟨p2, hp2⟩ : ∃ p2, p1 + db = p2 := ⟨_, rfl⟩
                obtain ⟨p3, hp3⟩ : ∃ p3, p2 + mb = p3 := ⟨_, rfl⟩
                rw [hp1, hp2, hp3] at HRb
                have s1 : IntKind.i64.wrap ((da : Int) + (ma : Int)) = (p1 : Int) := (IntWalk.i64_in _ (by omega)).trans (by omega)
                have s2 : IntKind.i64.wrap ((p1 : Int) + (db : Int)) = (p2 : Int) := (IntWalk.i64_in _ (by omega)).trans (by omega)
                have s3 : IntKind.i64.wrap ((p2 : Int) + (mb : Int)) = (p3 : Int) := (IntWalk.i64_in _ (by omega)).trans (by omega)
                have t4 : Int.tmod (p3 : Int) 2 = ((p3 % 2 : Nat) : Int) := rfl
                clear hp1 hp2 hp3 d1 d2 d3 d4
                rcases Nat.mod_two_eq_zero_or_one p3 with hq | hq
                · rw [hq] at t4
                  have HRb := hide (HRb.out hq)
                  have hbd := hide (hbb.alloc zi (.cells #[.int .i64 (b : Int), .int .i64 (a : Int)] 3)).drew
                  have hrow := hide (show Row (wi.alloc (.cells #[.int .i64 (b : Int), .int .i64 (a : Int)] 3)).drew (some ⟨wi.heap.size, 0, none⟩) (ints [(b : Int), (a : Int)]) from own_reads (own_two wi (b : Int) (a : Int)))
                  clear hq
                  go_wp2_with fail
                  go_region_held3 (fun _ => True) (trivial)
                    (first
                      | (go_at_call 9; refine (HRb.out _ _ hrow.out).mono ?_
                         rintro e w5 ⟨rfl, b5⟩
                         have B5 := hide (below_then hbd.out hbd.out.size b5))
                      | fail)
                  go_wp2_with fail
                  exact ⟨⟨b + 1, hlt2, by go_num, B5.out⟩, by simp [intOf]; omega⟩
                · rw [hq] at t4
                  clear hq HRb
                  go_wp2_with fail
                  go_quiet (fail)
                  go_wp2_with fail
                  exact ⟨⟨b + 1, hlt2, by go_num, below_drewN hbb _⟩, by simp [intOf]; omega⟩
              · obtain rfl : b = a := by omega
                go_wp2_with fail
                exact ⟨⟨b + 1, hlt, by go_num, hbb⟩, by simp [intOf]; omega⟩
          · obtain rfl : a = N' := by omega
            go_wp2_with fail
            go_ret
            exact ⟨rfl, hb⟩
      · rw [hp] at t1
        clear HR
        go_wp2_with fail
        refine (HIs.out _ (Below.refl _ _)).mono ?_
        rintro e w2 ⟨rfl, b2⟩
        go_wp2_with fail
        refine (HSs.out _ b2).mono ?_
        rintro e w3 ⟨rfl, b3⟩
        have b3 := below_then b2 b2.size b3
        go_wp2_with fail
        refine (HNs.out _ b3).mono ?_
        rintro e w4 ⟨rfl, b4⟩
        have b4 := below_then b1 zb (below_then b3 b3.size b4)
        go_wp2_with fail
        go_ret
        exact ⟨rfl, b4⟩
    · have hX : coversP bc br [] = -1 := by unfold coversP; rw [if_neg (fun hH => hB hH.1)]
      rw [hX] at HNs
      clear hX hB
      go_wp2_with fail
      refine (HIs.out _ (Below.refl _ _)).mono ?_
      rintro e w2 ⟨rfl, b2⟩
      go_wp2_with fail
      refine (HSs.out _ b2).mono ?_
      rintro e w3 ⟨rfl, b3⟩
      have b3 := below_then b2 b2.size b3
      go_wp2_with fail
      refine (HNs.out _ b3).mono ?_
      rintro e w4 ⟨rfl, b4⟩
      have b4 := below_then b1 zb (below_then b3 b3.size b4)
      go_wp2_with fail
      go_ret
      exact ⟨rfl, b4⟩
end Go.Proofs.YtnikgnicjbcbmaaDoor
