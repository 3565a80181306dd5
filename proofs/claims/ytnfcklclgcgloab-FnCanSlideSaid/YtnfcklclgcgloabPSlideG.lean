
/-
  The program's CanSlide.
-/
import Derived.Test.YtnfcklclgcgloabPSlideF
import Derived.Test.YtnfcklclgcgloabSlideC
import Derived.Deep.RegionHeld3
namespace Go.Proofs.Ytnfcklclgcgloab
open Go.RowKit
set_option linter.unusedVariables false

theorem ap_le {x a b : Nat} (ha : a ≤ 6) (hb : b ≤ 6) : apN x a b ≤ 100 := by
  have h1 := Nat.div_le_self a x
  have h2 := Nat.mod_le a x
  have h3 := Nat.div_le_self b x
  have h4 := Nat.mod_le b x
  unfold apN
  generalize a / x = p at *
  generalize a % x = q at *
  generalize b / x = r at *
  generalize b % x = s at *
  omega
set_option maxHeartbeats 4000000 in
set_option maxRecDepth 100000 in
theorem implCan_row (bc br : Int) (A C : Option Addr) (ca cc : Nat) (a b : List Int) (W : World) (ha : Row W A (ints a)) (hb : Row W C (ints b)) (h1 : a.length ≤ maxLen) (h2 : b.length ≤ maxLen) (sa : SlideIs bc br a) (sb : SlideIs bc br b) (h0 : bc = 1 ∨ br = 1) :
    Calls Try.prog 13 #[.int .i64 bc, .int .i64 br, .slice A a.length ca, .slice C b.length cc] W (Plain (.bool (canSlideP bc br a b)) W) := by
  have HS := hide (slidesOf_yes bc br A C ca cc a b W ha hb h1 h2 sa sb)
  have hla := sa.2.2.1
  have hlb := sb.2.2.1
  have hl : a.length = b.length := by omega
  obtain ⟨b1, b2, b3, b4⟩ := id sa.1
  have m1 := (mul_bd b1 b2 b3 b4).1
  have oa := sa.ord
  have ob := sb.ord
  have hga := gap_lt oa (by omega)
  have hgb := gap_lt ob (by omega)
  have HE := hide (show canSlideP bc br a b = (num5 a == num5 b) by rw [can_same sa sb h0, num5_eq oa.1 hl hga hgb])
  have HN1 := hide (fun w5 => show Calls Try.prog 28 #[.agg #[.int .i64 (atF a 0), .int .i64 (atF a 1), .int .i64 (atF a 2), .int .i64 (atF a 3), .int .i64 (atF a 4), .int .i64 (atF a 5)]] w5 (Owns 3 1 5 (ints (num5 a)) w5) from numbers_c a w5 oa (by omega))
  have HN2 := hide (fun w5 => show Calls Try.prog 28 #[.agg #[.int .i64 (atF b 0), .int .i64 (atF b 1), .int .i64 (atF b 2), .int .i64 (atF b 3), .int .i64 (atF b 4), .int .i64 (atF b 5)]] w5 (Owns 3 1 5 (ints (num5 b)) w5) from numbers_c b w5 ob (by omega))
  have HQ := hide (fun v u B1 B2 w5 h5 h6 => equal5_c v u B1 B2 (num5 a) (num5 b) w5 h5 h6)
  rw [HE.out]
  have hor : bc = 1 ∨ (bc ≠ 1 ∧ br = 1) := by omega
  clear HE sa sb ha hb h1 h2 hla hlb hl oa ob hga hgb h0
  generalize (num5 a == num5 b) = res at *
  generalize num5 a = xs at *
  generalize num5 b = ys at *
  rcases hor with rfl | ⟨hne, rfl⟩
  · go_enter Try.func13, Try.ntmps13
    go_wp2_with fail
    refine HS.out.mono ?_
    rintro e w1 ⟨rfl, d1⟩
    have z1 := d1.size
    have bb := ((Box.new w1 38 #[.int .i64 1, .int .i64 br]).alloc (.cells #[.int .i64 (atF a 0), .int .i64 (atF a 1), .int .i64 (atF a 2), .int .i64 (atF a 3), .int .i64 (atF a 4), .int .i64 (atF a 5)] 40)).alloc (.cells #[.int .i64 (atF b 0), .int .i64 (atF b 1), .int .i64 (atF b 2), .int .i64 (atF b 3), .int .i64 (atF b 4), .int .i64 (atF b 5)] 40)
    have bs : Box (((w1.alloc (.cells #[.int .i64 1, .int .i64 br] 38)).alloc (.cells #[.int .i64 (atF a 0), .int .i64 (atF a 1), .int .i64 (atF a 2), .int .i64 (atF a 3), .int .i64 (atF a 4), .int .i64 (atF a 5)] 40)).alloc (.cells #[.int .i64 (atF b 0), .int .i64 (atF b 1), .int .i64 (atF b 2), .int .i64 (atF b 3), .int .i64 (atF b 4), .int .i64 (atF b 5)] 40)) (w1.alloc (.cells #[.int .i64 1, .int .i64 br] 38)).heap.size 40 (sixF (atF a)) := (Box.new (w1.alloc (.cells #[.int .i64 1, .int .i64 br] 38)) 40 #[.int .i64 (atF a 0), .int .i64 (atF a 1), .int .i64 (atF a 2), .int .i64 (atF a 3), .int .i64 (atF a 4), .int .i64 (atF a 5)]).alloc (.cells #[.int .i64 (atF b 0), .int .i64 (atF b 1), .int .i64 (atF b 2), .int .i64 (atF b 3), .int .i64 (atF b 4), .int .i64 (atF b 5)] 40)
    have bt : Box (((w1.alloc (.cells #[.int .i64 1, .int .i64 br] 38)).alloc (.cells #[.int .i64 (atF a 0), .int .i64 (atF a 1), .int .i64 (atF a 2), .int .i64 (atF a 3), .int .i64 (atF a 4), .int .i64 (atF a 5)] 40)).alloc (.cells #[.int .i64 (atF b 0), .int .i64 (atF b 1), .int .i64 (atF b 2), .int .i64 (atF b 3), .int .i64 (atF b 4), .int .i64 (atF b 5)] 40)) ((w1.alloc (.cells #[.int .i64 1, .int .i64 br] 38)).alloc (.cells #[.int .i64 (atF a 0), .int .i64 (atF a 1), .int .i64 (atF a 2), .int .i64 (atF a 3), .int .i64 (atF a 4), .int .i64 (atF a 5)] 40)).heap.size 40 (sixF (atF b)) := Box.new ((w1.alloc (.cells #[.int .i64 1, .int .i64 br] 38)).alloc (.cells #[.int .i64 (atF a 0), .int .i64 (atF a 1), .int .i64 (atF a 2), .int .i64 (atF a 3), .int .i64 (atF a 4), .int .i64 (atF a 5)] 40)) 40 #[.int .i64 (atF b 0), .int .i64 (atF b 1), .int .i64 (atF b 2), .int .i64 (atF b 3), .int .i64 (atF b 4), .int .i64 (atF b 5)]
    simp only [World.size_alloc] at bs bt
    have d1 := ((d1.alloc z1 (.cells #[.int .i64 1, .int .i64 br] 38)).alloc (by simp; omega) (.cells #[.int .i64 (atF a 0), .int .i64 (atF a 1), .int .i64 (atF a 2), .int .i64 (atF a 3), .int .i64 (atF a 4), .int .i64 (atF a 5)] 40)).alloc (by simp; omega) (.cells #[.int .i64 (atF b 0), .int .i64 (atF b 1), .int .i64 (atF b 2), .int .i64 (atF b 3), .int .i64 (atF b 4), .int .i64 (atF b 5)] 40)
    have k0 := bb.cell 0
    have k1 := bb.cell 1
    go_wp2_with fail
    clear k0 k1
    generalize hw : ((w1.alloc (.cells #[.int .i64 1, .int .i64 br] 38)).alloc (.cells #[.int .i64 (atF a 0), .int .i64 (atF a 1), .int .i64 (atF a 2), .int .i64 (atF a 3), .int .i64 (atF a 4), .int .i64 (atF a 5)] 40)).alloc (.cells #[.int .i64 (atF b 0), .int .i64 (atF b 1), .int .i64 (atF b 2), .int .i64 (atF b 3), .int .i64 (atF b 4), .int .i64 (atF b 5)] 40) = w2 at *
    clear hw bb
    generalize w1.heap.size = G at *
    have bsd : Box w2.drew (G + 1) 40 (sixF (atF a)) := bs
    have btd : Box w2.drew (G + 1 + 1) 40 (sixF (atF b)) := bt
    have dd := d1.drew
    clear bs bt d1
    obtain ⟨s1, s2, s3, s4, s5, s6⟩ := box6 bsd
    obtain ⟨u1, u2, u3, u4, u5, u6⟩ := box6 btd
    go_region_held3 (fun w' => w'.cell? ⟨G + 1, 0, none⟩ = some (.int .i64 (atF a 0)) ∧ w'.cell? ⟨G + 1, 1, none⟩ = some (.int .i64 (atF a 1)) ∧ w'.cell? ⟨G + 1, 2, none⟩ = some (.int .i64 (atF a 2)) ∧ w'.cell? ⟨G + 1, 3, none⟩ = some (.int .i64 (atF a 3)) ∧ w'.cell? ⟨G + 1, 4, none⟩ = some (.int .i64 (atF a 4)) ∧ w'.cell? ⟨G + 1, 5, none⟩ = some (.int .i64 (atF a 5)) ∧ w'.cell? ⟨G + 1 + 1, 0, none⟩ = some (.int .i64 (atF b 0)) ∧ w'.cell? ⟨G + 1 + 1, 1, none⟩ = some (.int .i64 (atF b 1)) ∧ w'.cell? ⟨G + 1 + 1, 2, none⟩ = some (.int .i64 (atF b 2)) ∧ w'.cell? ⟨G + 1 + 1, 3, none⟩ = some (.int .i64 (atF b 3)) ∧ w'.cell? ⟨G + 1 + 1, 4, none⟩ = some (.int .i64 (atF b 4)) ∧ w'.cell? ⟨G + 1 + 1, 5, none⟩ = some (.int .i64 (atF b 5))) (go_keep)
      (first
        | (go_at_call_of 28 (Value.agg #[Value.int .i64 (atF a 0), Value.int .i64 (atF a 1), Value.int .i64 (atF a 2), Value.int .i64 (atF a 3), Value.int .i64 (atF a 4), Value.int .i64 (atF a 5)]); refine (HN1.out _).mono ?_
           rintro e w3 ⟨v3, rfl, o3, d3⟩
           have bs3 := Box.then (w := w2.drew) bsd d3
           have bt3 := Box.then (w := w2.drew) btd d3
           obtain ⟨s30, s31, s32, s33, s34, s35⟩ := box6 bs3
           obtain ⟨u30, u31, u32, u33, u34, u35⟩ := box6 bt3
           have e3 := below_then dd dd.size d3
           have o3 := hide o3)
        | (go_at_call_of 28 (Value.agg #[Value.int .i64 (atF b 0), Value.int .i64 (atF b 1), Value.int .i64 (atF b 2), Value.int .i64 (atF b 3), Value.int .i64 (atF b 4), Value.int .i64 (atF b 5)]); refine (HN2.out _).mono ?_
           rintro e w4 ⟨v4, rfl, o4, d4⟩
           have bs4 := Box.then (w := w3) bs3 d4
           have bt4 := Box.then (w := w3) bt3 d4
           obtain ⟨s40, s41, s42, s43, s44, s45⟩ := box6 bs4
           obtain ⟨u40, u41, u42, u43, u44, u45⟩ := box6 bt4
           have o34 := hide (own_below o3.out d4)
           have e4 := below_then e3 e3.size d4
           have o4 := hide o4)
        | (go_at_call 27; refine (HQ.out _ _ _ _ _ o34.out o4.out).mono ?_
           rintro e w5 ⟨rfl, d5⟩
           have bs5 := Box.then (w := w4) bs4 d5
           have bt5 := Box.then (w := w4) bt4 d5
           obtain ⟨s50, s51, s52, s53, s54, s55⟩ := box6 bs5
           obtain ⟨u50, u51, u52, u53, u54, u55⟩ := box6 bt5
           have e5 := hide (below_then e4 e4.size d5))
        | fail)
    go_wp2_with fail
    go_ret
    exact ⟨rfl, e5.out⟩
  · have hne' : (bc == 1) = false := by simpa using hne
    go_enter Try.func13, Try.ntmps13
    go_wp2_with fail
    refine HS.out.mono ?_
    rintro e w1 ⟨rfl, d1⟩
    have z1 := d1.size
    have bb := ((Box.new w1 38 #[.int .i64 bc, .int .i64 1]).alloc (.cells #[.int .i64 (atF a 0), .int .i64 (atF a 1), .int .i64 (atF a 2), .int .i64 (atF a 3), .int .i64 (atF a 4), .int .i64 (atF a 5)] 40)).alloc (.cells #[.int .i64 (atF b 0), .int .i64 (atF b 1), .int .i64 (atF b 2), .int .i64 (atF b 3), .int .i64 (atF b 4), .int .i64 (atF b 5)] 40)
    have bs : Box (((w1.alloc (.cells #[.int .i64 bc, .int .i64 1] 38)).alloc (.cells #[.int .i64 (atF a 0), .int .i64 (atF a 1), .int .i64 (atF a 2), .int .i64 (atF a 3), .int .i64 (atF a 4), .int .i64 (atF a 5)] 40)).alloc (.cells #[.int .i64 (atF b 0), .int .i64 (atF b 1), .int .i64 (atF b 2), .int .i64 (atF b 3), .int .i64 (atF b 4), .int .i64 (atF b 5)] 40)) (w1.alloc (.cells #[.int .i64 bc, .int .i64 1] 38)).heap.size 40 (sixF (atF a)) := (Box.new (w1.alloc (.cells #[.int .i64 bc, .int .i64 1] 38)) 40 #[.int .i64 (atF a 0), .int .i64 (atF a 1), .int .i64 (atF a 2), .int .i64 (atF a 3), .int .i64 (atF a 4), .int .i64 (atF a 5)]).alloc (.cells #[.int .i64 (atF b 0), .int .i64 (atF b 1), .int .i64 (atF b 2), .int .i64 (atF b 3), .int .i64 (atF b 4), .int .i64 (atF b 5)] 40)
    have bt : Box (((w1.alloc (.cells #[.int .i64 bc, .int .i64 1] 38)).alloc (.cells #[.int .i64 (atF a 0), .int .i64 (atF a 1), .int .i64 (atF a 2), .int .i64 (atF a 3), .int .i64 (atF a 4), .int .i64 (atF a 5)] 40)).alloc (.cells #[.int .i64 (atF b 0), .int .i64 (atF b 1), .int .i64 (atF b 2), .int .i64 (atF b 3), .int .i64 (atF b 4), .int .i64 (atF b 5)] 40)) ((w1.alloc (.cells #[.int .i64 bc, .int .i64 1] 38)).alloc (.cells #[.int .i64 (atF a 0), .int .i64 (atF a 1), .int .i64 (atF a 2), .int .i64 (atF a 3), .int .i64 (atF a 4), .int .i64 (atF a 5)] 40)).heap.size 40 (sixF (atF b)) := Box.new ((w1.alloc (.cells #[.int .i64 bc, .int .i64 1] 38)).alloc (.cells #[.int .i64 (atF a 0), .int .i64 (atF a 1), .int .i64 (atF a 2), .int .i64 (atF a 3), .int .i64 (atF a 4), .int .i64 (atF a 5)] 40)) 40 #[.int .i64 (atF b 0), .int .i64 (atF b 1), .int .i64 (atF b 2), .int .i64 (atF b 3), .int .i64 (atF b 4), .int .i64 (atF b 5)]
    simp only [World.size_alloc] at bs bt
    have d1 := ((d1.alloc z1 (.cells #[.int .i64 bc, .int .i64 1] 38)).alloc (by simp; omega) (.cells #[.int .i64 (atF a 0), .int .i64 (atF a 1), .int .i64 (atF a 2), .int .i64 (atF a 3), .int .i64 (atF a 4), .int .i64 (atF a 5)] 40)).alloc (by simp; omega) (.cells #[.int .i64 (atF b 0), .int .i64 (atF b 1), .int .i64 (atF b 2), .int .i64 (atF b 3), .int .i64 (atF b 4), .int .i64 (atF b 5)] 40)
    have k0 := bb.cell 0
    have k1 := bb.cell 1
    go_wp2_with fail
    clear k0 k1
    generalize hw : ((w1.alloc (.cells #[.int .i64 bc, .int .i64 1] 38)).alloc (.cells #[.int .i64 (atF a 0), .int .i64 (atF a 1), .int .i64 (atF a 2), .int .i64 (atF a 3), .int .i64 (atF a 4), .int .i64 (atF a 5)] 40)).alloc (.cells #[.int .i64 (atF b 0), .int .i64 (atF b 1), .int .i64 (atF b 2), .int .i64 (atF b 3), .int .i64 (atF b 4), .int .i64 (atF b 5)] 40) = w2 at *
    clear hw bb
    generalize w1.heap.size = G at *
    have bsd : Box w2.drew (G + 1) 40 (sixF (atF a)) := bs
    have btd : Box w2.drew (G + 1 + 1) 40 (sixF (atF b)) := bt
    have dd := d1.drew
    clear bs bt d1
    obtain ⟨s1, s2, s3, s4, s5, s6⟩ := box6 bsd
    obtain ⟨u1, u2, u3, u4, u5, u6⟩ := box6 btd
    go_region_held3 (fun w' => w'.cell? ⟨G + 1, 0, none⟩ = some (.int .i64 (atF a 0)) ∧ w'.cell? ⟨G + 1, 1, none⟩ = some (.int .i64 (atF a 1)) ∧ w'.cell? ⟨G + 1, 2, none⟩ = some (.int .i64 (atF a 2)) ∧ w'.cell? ⟨G + 1, 3, none⟩ = some (.int .i64 (atF a 3)) ∧ w'.cell? ⟨G + 1, 4, none⟩ = some (.int .i64 (atF a 4)) ∧ w'.cell? ⟨G + 1, 5, none⟩ = some (.int .i64 (atF a 5)) ∧ w'.cell? ⟨G + 1 + 1, 0, none⟩ = some (.int .i64 (atF b 0)) ∧ w'.cell? ⟨G + 1 + 1, 1, none⟩ = some (.int .i64 (atF b 1)) ∧ w'.cell? ⟨G + 1 + 1, 2, none⟩ = some (.int .i64 (atF b 2)) ∧ w'.cell? ⟨G + 1 + 1, 3, none⟩ = some (.int .i64 (atF b 3)) ∧ w'.cell? ⟨G + 1 + 1, 4, none⟩ = some (.int .i64 (atF b 4)) ∧ w'.cell? ⟨G + 1 + 1, 5, none⟩ = some (.int .i64 (atF b 5))) (go_keep)
      (first
        | (go_at_call_of 28 (Value.agg #[Value.int .i64 (atF a 0), Value.int .i64 (atF a 1), Value.int .i64 (atF a 2), Value.int .i64 (atF a 3), Value.int .i64 (atF a 4), Value.int .i64 (atF a 5)]); refine (HN1.out _).mono ?_
           rintro e w3 ⟨v3, rfl, o3, d3⟩
           have bs3 := Box.then (w := w2.drew) bsd d3
           have bt3 := Box.then (w := w2.drew) btd d3
           obtain ⟨s30, s31, s32, s33, s34, s35⟩ := box6 bs3
           obtain ⟨u30, u31, u32, u33, u34, u35⟩ := box6 bt3
           have e3 := below_then dd dd.size d3
           have o3 := hide o3)
        | (go_at_call_of 28 (Value.agg #[Value.int .i64 (atF b 0), Value.int .i64 (atF b 1), Value.int .i64 (atF b 2), Value.int .i64 (atF b 3), Value.int .i64 (atF b 4), Value.int .i64 (atF b 5)]); refine (HN2.out _).mono ?_
           rintro e w4 ⟨v4, rfl, o4, d4⟩
           have bs4 := Box.then (w := w3) bs3 d4
           have bt4 := Box.then (w := w3) bt3 d4
           obtain ⟨s40, s41, s42, s43, s44, s45⟩ := box6 bs4
           obtain ⟨u40, u41, u42, u43, u44, u45⟩ := box6 bt4
           have o34 := hide (own_below o3.out d4)
           have e4 := below_then e3 e3.size d4
           have o4 := hide o4)
        | (go_at_call 27; refine (HQ.out _ _ _ _ _ o34.out o4.out).mono ?_
           rintro e w5 ⟨rfl, d5⟩
           have bs5 := Box.then (w := w4) bs4 d5
           have bt5 := Box.then (w := w4) bt4 d5
           obtain ⟨s50, s51, s52, s53, s54, s55⟩ := box6 bs5
           obtain ⟨u50, u51, u52, u53, u54, u55⟩ := box6 bt5
           have e5 := hide (below_then e4 e4.size d5))
        | fail)
    go_wp2_with fail
    go_ret
    exact ⟨rfl, e5.out⟩

set_option maxHeartbeats 4000000 in
set_option maxRecDepth 100000 in
theorem implCan_wide (x y : Nat) (A C : Option Addr) (ca cc : Nat) (a b : List Int) (W : World) (ha : Row W A (ints a)) (hb : Row W C (ints b)) (h1 : a.length ≤ maxLen) (h2 : b.length ≤ maxLen) (sa : SlideIs (x : Int) (y : Int) a) (sb : SlideIs (x : Int) (y : Int) b) (h0 : ¬ ((x : Int) = 1 ∨ (y : Int) = 1)) :
    Calls Try.prog 13 #[.int .i64 (x : Int), .int .i64 (y : Int), .slice A a.length ca, .slice C b.length cc] W (Plain (.bool (canSlideP (x : Int) (y : Int) a b)) W) := by
  have HS := hide (slidesOf_yes (x : Int) (y : Int) A C ca cc a b W ha hb h1 h2 sa sb)
  have hla := sa.2.2.1
  have hlb := sb.2.2.1
  have hl : a.length = b.length := by omega
  obtain ⟨b1, b2, b3, b4⟩ := id sa.1
  have m1 := (mul_bd b1 b2 b3 b4).1
  have oa := sa.ord
  have ob := sb.ord
  have hga := gap_lt oa (by omega)
  have hgb := gap_lt ob (by omega)
  have h6a := oa.1
  have h6b := ob.1
  obtain ⟨e1, e2⟩ := sw_six oa ob hl
  have HW := hide (fun w5 => show Calls Try.prog 25 #[.agg #[.int .i64 (atF a 0), .int .i64 (atF a 1), .int .i64 (atF a 2), .int .i64 (atF a 3), .int .i64 (atF a 4), .int .i64 (atF a 5)], .agg #[.int .i64 (atF b 0), .int .i64 (atF b 1), .int .i64 (atF b 2), .int .i64 (atF b 3), .int .i64 (atF b 4), .int .i64 (atF b 5)]] w5 (Plain (.int .i64 (((swTo a b 6).1 : Nat) : Int)) w5) from swapsTo_c a b w5 oa ob hl)
  have HG1 := hide (fun w5 => show Calls Try.prog 30 #[.agg #[.int .i64 (atF a 0), .int .i64 (atF a 1), .int .i64 (atF a 2), .int .i64 (atF a 3), .int .i64 (atF a 4), .int .i64 (atF a 5)]] w5 (Plain (.int .i64 ((gapP a : Nat) : Int)) w5) from gap_c a w5 oa (by omega))
  have HG2 := hide (fun w5 => show Calls Try.prog 30 #[.agg #[.int .i64 (atF b 0), .int .i64 (atF b 1), .int .i64 (atF b 2), .int .i64 (atF b 3), .int .i64 (atF b 4), .int .i64 (atF b 5)]] w5 (Plain (.int .i64 ((gapP b : Nat) : Int)) w5) from gap_c b w5 ob (by omega))
  have HA := hide (fun w5 => apart_c x y (gapP a) (gapP b) w5 ⟨by omega, by omega⟩ (by omega) (by omega))
  have HE := hide (show canSlideP (x : Int) (y : Int) a b = ((swTo a b 6).1 % 2 == apN x (gapP a) (gapP b) % 2) by rw [can_other sa sb h0, e1, Int.toNat_natCast])
  have hap := ap_le (x := x) (show gapP a ≤ 6 by omega) (show gapP b ≤ 6 by omega)
  rw [HE.out]
  have ne1 : ((x : Int) == 1) = false := by simp; omega
  have ne2 : ((y : Int) == 1) = false := by simp; omega
  clear HE sa sb ha hb h1 h2 hla hlb hl oa ob hga hgb h0 e1 h6a h6b m1
  generalize (swTo a b 6).1 = n at *
  generalize gapP a = ga at *
  generalize gapP b = gb at *
  generalize apN x ga gb = d at *
  have t1 : Int.tmod (n : Int) 2 = ((n % 2 : Nat) : Int) := rfl
  have t1' : (n : Int) % 2 = ((n % 2 : Nat) : Int) := rfl
  have t2 : Int.tmod (d : Int) 2 = ((d % 2 : Nat) : Int) := rfl
  have t2' : (d : Int) % 2 = ((d % 2 : Nat) : Int) := rfl
  have p1 : n % 2 < 2 := Nat.mod_lt _ (by omega)
  have p2 : d % 2 < 2 := Nat.mod_lt _ (by omega)
  have HR := hide (show ((((n % 2 : Nat) : Int)) == (((d % 2 : Nat) : Int))) = (n % 2 == d % 2) by rw [Bool.eq_iff_iff, beq_iff_eq, beq_iff_eq]; omega)
  generalize (n % 2 == d % 2) = res at *
  generalize n % 2 = r1 at *
  generalize d % 2 = r2 at *
  have v1 : IntKind.i64.wrap (r1 : Int) = (r1 : Int) := IntWalk.i64_in _ (by omega)
  have v2 : IntKind.i64.wrap (r2 : Int) = (r2 : Int) := IntWalk.i64_in _ (by omega)
  go_enter Try.func13, Try.ntmps13
  go_wp2_with fail
  refine HS.out.mono ?_
  rintro e w1 ⟨rfl, d1⟩
  have z1 := d1.size
  have bb := ((Box.new w1 38 #[.int .i64 (x : Int), .int .i64 (y : Int)]).alloc (.cells #[.int .i64 (atF a 0), .int .i64 (atF a 1), .int .i64 (atF a 2), .int .i64 (atF a 3), .int .i64 (atF a 4), .int .i64 (atF a 5)] 40)).alloc (.cells #[.int .i64 (atF b 0), .int .i64 (atF b 1), .int .i64 (atF b 2), .int .i64 (atF b 3), .int .i64 (atF b 4), .int .i64 (atF b 5)] 40)
  have bs : Box (((w1.alloc (.cells #[.int .i64 (x : Int), .int .i64 (y : Int)] 38)).alloc (.cells #[.int .i64 (atF a 0), .int .i64 (atF a 1), .int .i64 (atF a 2), .int .i64 (atF a 3), .int .i64 (atF a 4), .int .i64 (atF a 5)] 40)).alloc (.cells #[.int .i64 (atF b 0), .int .i64 (atF b 1), .int .i64 (atF b 2), .int .i64 (atF b 3), .int .i64 (atF b 4), .int .i64 (atF b 5)] 40)) (w1.alloc (.cells #[.int .i64 (x : Int), .int .i64 (y : Int)] 38)).heap.size 40 (sixF (atF a)) := (Box.new (w1.alloc (.cells #[.int .i64 (x : Int), .int .i64 (y : Int)] 38)) 40 #[.int .i64 (atF a 0), .int .i64 (atF a 1), .int .i64 (atF a 2), .int .i64 (atF a 3), .int .i64 (atF a 4), .int .i64 (atF a 5)]).alloc (.cells #[.int .i64 (atF b 0), .int .i64 (atF b 1), .int .i64 (atF b 2), .int .i64 (atF b 3), .int .i64 (atF b 4), .int .i64 (atF b 5)] 40)
  have bt : Box (((w1.alloc (.cells #[.int .i64 (x : Int), .int .i64 (y : Int)] 38)).alloc (.cells #[.int .i64 (atF a 0), .int .i64 (atF a 1), .int .i64 (atF a 2), .int .i64 (atF a 3), .int .i64 (atF a 4), .int .i64 (atF a 5)] 40)).alloc (.cells #[.int .i64 (atF b 0), .int .i64 (atF b 1), .int .i64 (atF b 2), .int .i64 (atF b 3), .int .i64 (atF b 4), .int .i64 (atF b 5)] 40)) ((w1.alloc (.cells #[.int .i64 (x : Int), .int .i64 (y : Int)] 38)).alloc (.cells #[.int .i64 (atF a 0), .int .i64 (atF a 1), .int .i64 (atF a 2), .int .i64 (atF a 3), .int .i64 (atF a 4), .int .i64 (atF a 5)] 40)).heap.size 40 (sixF (atF b)) := Box.new ((w1.alloc (.cells #[.int .i64 (x : Int), .int .i64 (y : Int)] 38)).alloc (.cells #[.int .i64 (atF a 0), .int .i64 (atF a 1), .int .i64 (atF a 2), .int .i64 (atF a 3), .int .i64 (atF a 4), .int .i64 (atF a 5)] 40)) 40 #[.int .i64 (atF b 0), .int .i64 (atF b 1), .int .i64 (atF b 2), .int .i64 (atF b 3), .int .i64 (atF b 4), .int .i64 (atF b 5)]
  simp only [World.size_alloc] at bs bt
  have d1 := ((d1.alloc z1 (.cells #[.int .i64 (x : Int), .int .i64 (y : Int)] 38)).alloc (by simp; omega) (.cells #[.int .i64 (atF a 0), .int .i64 (atF a 1), .int .i64 (atF a 2), .int .i64 (atF a 3), .int .i64 (atF a 4), .int .i64 (atF a 5)] 40)).alloc (by simp; omega) (.cells #[.int .i64 (atF b 0), .int .i64 (atF b 1), .int .i64 (atF b 2), .int .i64 (atF b 3), .int .i64 (atF b 4), .int .i64 (atF b 5)] 40)
  have k0 := bb.cell 0
  have k1 := bb.cell 1
  go_wp2_with fail
  clear k0 k1
  generalize hw : ((w1.alloc (.cells #[.int .i64 (x : Int), .int .i64 (y : Int)] 38)).alloc (.cells #[.int .i64 (atF a 0), .int .i64 (atF a 1), .int .i64 (atF a 2), .int .i64 (atF a 3), .int .i64 (atF a 4), .int .i64 (atF a 5)] 40)).alloc (.cells #[.int .i64 (atF b 0), .int .i64 (atF b 1), .int .i64 (atF b 2), .int .i64 (atF b 3), .int .i64 (atF b 4), .int .i64 (atF b 5)] 40) = w2 at *
  clear hw
  generalize w1.heap.size = G at *
  have bbd : Box w2.drew G 38 #[.int .i64 (x : Int), .int .i64 (y : Int)] := bb
  have bsd : Box w2.drew (G + 1) 40 (sixF (atF a)) := bs
  have btd : Box w2.drew (G + 1 + 1) 40 (sixF (atF b)) := bt
  have dd := d1.drew
  clear bs bt d1 bb
  have k0 := bbd.cell 0
  have k1 := bbd.cell 1
  obtain ⟨s1, s2, s3, s4, s5, s6⟩ := box6 bsd
  obtain ⟨u1, u2, u3, u4, u5, u6⟩ := box6 btd
  go_region_held3 (fun w' => w'.cell? ⟨G, 0, none⟩ = some (.int .i64 (x : Int)) ∧ w'.cell? ⟨G, 1, none⟩ = some (.int .i64 (y : Int)) ∧ w'.cell? ⟨G + 1, 0, none⟩ = some (.int .i64 (atF a 0)) ∧ w'.cell? ⟨G + 1, 1, none⟩ = some (.int .i64 (atF a 1)) ∧ w'.cell? ⟨G + 1, 2, none⟩ = some (.int .i64 (atF a 2)) ∧ w'.cell? ⟨G + 1, 3, none⟩ = some (.int .i64 (atF a 3)) ∧ w'.cell? ⟨G + 1, 4, none⟩ = some (.int .i64 (atF a 4)) ∧ w'.cell? ⟨G + 1, 5, none⟩ = some (.int .i64 (atF a 5)) ∧ w'.cell? ⟨G + 1 + 1, 0, none⟩ = some (.int .i64 (atF b 0)) ∧ w'.cell? ⟨G + 1 + 1, 1, none⟩ = some (.int .i64 (atF b 1)) ∧ w'.cell? ⟨G + 1 + 1, 2, none⟩ = some (.int .i64 (atF b 2)) ∧ w'.cell? ⟨G + 1 + 1, 3, none⟩ = some (.int .i64 (atF b 3)) ∧ w'.cell? ⟨G + 1 + 1, 4, none⟩ = some (.int .i64 (atF b 4)) ∧ w'.cell? ⟨G + 1 + 1, 5, none⟩ = some (.int .i64 (atF b 5))) (go_keep)
    (first
      | (go_at_call 25; refine (HW.out _).mono ?_
         rintro e w3 ⟨rfl, d3⟩
         have bb3 := Box.then (w := w2.drew) bbd d3
         have bs3 := Box.then (w := w2.drew) bsd d3
         have bt3 := Box.then (w := w2.drew) btd d3
         have j3 := bb3.cell 0
         have k3 := bb3.cell 1
         obtain ⟨s30, s31, s32, s33, s34, s35⟩ := box6 bs3
         obtain ⟨u30, u31, u32, u33, u34, u35⟩ := box6 bt3
         have e3 := below_then dd dd.size d3)
      | (go_at_call_of 30 (Value.agg #[Value.int .i64 (atF a 0), Value.int .i64 (atF a 1), Value.int .i64 (atF a 2), Value.int .i64 (atF a 3), Value.int .i64 (atF a 4), Value.int .i64 (atF a 5)]); refine (HG1.out _).mono ?_
         rintro e w4 ⟨rfl, d4⟩
         have bb4 := Box.then (w := w3) bb3 d4
         have bs4 := Box.then (w := w3) bs3 d4
         have bt4 := Box.then (w := w3) bt3 d4
         have j4 := bb4.cell 0
         have k4 := bb4.cell 1
         obtain ⟨s40, s41, s42, s43, s44, s45⟩ := box6 bs4
         obtain ⟨u40, u41, u42, u43, u44, u45⟩ := box6 bt4
         have e4 := below_then e3 e3.size d4)
      | (go_at_call_of 30 (Value.agg #[Value.int .i64 (atF b 0), Value.int .i64 (atF b 1), Value.int .i64 (atF b 2), Value.int .i64 (atF b 3), Value.int .i64 (atF b 4), Value.int .i64 (atF b 5)]); refine (HG2.out _).mono ?_
         rintro e w5 ⟨rfl, d5⟩
         have bb5 := Box.then (w := w4) bb4 d5
         have bs5 := Box.then (w := w4) bs4 d5
         have bt5 := Box.then (w := w4) bt4 d5
         have j5 := bb5.cell 0
         have k5 := bb5.cell 1
         obtain ⟨s50, s51, s52, s53, s54, s55⟩ := box6 bs5
         obtain ⟨u50, u51, u52, u53, u54, u55⟩ := box6 bt5
         have e5 := below_then e4 e4.size d5)
      | (go_at_call 29; refine (HA.out _).mono ?_
         rintro e w6 ⟨rfl, d6⟩
         have bb6 := Box.then (w := w5) bb5 d6
         have bs6 := Box.then (w := w5) bs5 d6
         have bt6 := Box.then (w := w5) bt5 d6
         have j6 := bb6.cell 0
         have k6 := bb6.cell 1
         obtain ⟨s60, s61, s62, s63, s64, s65⟩ := box6 bs6
         obtain ⟨u60, u61, u62, u63, u64, u65⟩ := box6 bt6
         have e6 := hide (below_then e5 e5.size d6))
      | fail)
  go_wp2_with fail
  go_ret
  exact ⟨by rw [← HR.out]; rfl, e6.out⟩

set_option maxHeartbeats 1000000 in
theorem implCanSlide_c (bc br : Int) (A C : Option Addr) (ca cc : Nat) (a b : List Int) (W : World) (ha : Row W A (ints a)) (hb : Row W C (ints b)) (h1 : a.length ≤ maxLen) (h2 : b.length ≤ maxLen) :
    Calls Try.prog 13 #[.int .i64 bc, .int .i64 br, .slice A a.length ca, .slice C b.length cc] W (Plain (.bool (canSlideP bc br a b)) W) := by
  by_cases hs : SlideIs bc br a ∧ SlideIs bc br b
  · obtain ⟨sa, sb⟩ := hs
    by_cases h0 : bc = 1 ∨ br = 1
    · exact implCan_row bc br A C ca cc a b W ha hb h1 h2 sa sb h0
    · obtain ⟨b1, b2, b3, b4⟩ := id sa.1
      obtain ⟨x, rfl⟩ := Int.eq_ofNat_of_zero_le (show 0 ≤ bc by omega)
      obtain ⟨y, rfl⟩ := Int.eq_ofNat_of_zero_le (show 0 ≤ br by omega)
      exact implCan_wide x y A C ca cc a b W ha hb h1 h2 sa sb h0
  · have HS := hide (slidesOf_no bc br A C ca cc a b W ha hb h1 h2 hs)
    have HE := hide (can_not (bc := bc) (br := br) (a := a) (b := b) hs)
    rw [HE.out]
    clear HE hs ha hb h1 h2
    go_enter Try.func13, Try.ntmps13
    go_wp2_with fail
    refine HS.out.mono ?_
    rintro e w1 ⟨x, y, l1, l2, rfl, d1⟩
    have z1 := d1.size
    have d1 := ((d1.alloc z1 (.cells #[.int .i64 x, .int .i64 y] 38)).alloc (by simp; omega) (.cells #[.int .i64 (atF l1 0), .int .i64 (atF l1 1), .int .i64 (atF l1 2), .int .i64 (atF l1 3), .int .i64 (atF l1 4), .int .i64 (atF l1 5)] 40)).alloc (by simp; omega) (.cells #[.int .i64 (atF l2 0), .int .i64 (atF l2 1), .int .i64 (atF l2 2), .int .i64 (atF l2 3), .int .i64 (atF l2 4), .int .i64 (atF l2 5)] 40)
    go_wp2_with fail
    go_ret
    exact ⟨rfl, d1⟩
end Go.Proofs.Ytnfcklclgcgloab
