
/-
  Drawn seats; rows the other way round.
-/
import Derived.Test.YtlccohoblplddabSeatA
import Derived.Test.YtlccohoblplddabDrawC
namespace Go.Proofs.Ytlccohoblplddab
open Go.RowKit
set_option linter.unusedVariables false

theorem ints_set' (l : List Int) (i : Nat) (u : Int) : (ints l).set i (.int .i64 u) = ints (l.set i u) := by simp [ints, List.map_set]
def lenV : Value → Nat
  | .slice _ n _ => n
  | _ => 0
theorem own_lenV {w : World} {base e size n : Nat} {v : Value} {xs : List Value} (h : w.ownsRow base e size v n xs) : lenV v = n := by
  obtain ⟨A, c, rfl, _⟩ := own_row h
  rfl
def SomeSeats (R B N : Nat) (w : World) (e : Ending) (w' : World) : Prop := ∃ v xs, e = .returned v ∧ w'.ownsRow w.heap.size 3 1 v (List.length xs) (ints xs) ∧ xs.length ≤ 5 ∧ Reader w' R B N ∧ w.grownBy w' (some R)
set_option maxHeartbeats 1000000 in
set_option maxRecDepth 100000 in
theorem someSeats_c (R B N : Nat) (w : World) (h : Reader w R B N) (hN : N ≤ 800000) :
    Calls Try.prog 27 #[.pointer (some ⟨R, 0, none⟩)] w (SomeSeats R B (N + 60) w) := by
  have hlt := h.lt
  go_enter Try.func27, Try.ntmps27
  go_wp2_with fail
  refine (one_new [3, 4, 2, 5, 1] R B N w h (by omega) (by decide) (by decide)).mono ?_
  rintro e w1 ⟨x, rfl, hm, rd1, hg1⟩
  have hx : 1 ≤ x ∧ x ≤ 5 := by simp only [List.mem_cons, List.not_mem_nil, or_false] at hm; omega
  clear hm
  obtain ⟨x1, x5⟩ := hx
  obtain ⟨n, rfl⟩ := Int.eq_ofNat_of_zero_le (show 0 ≤ x by omega)
  have z1 := hg1.size
  go_wp2_with fail
  go_loopw [4] (fun v wr => ∃ xs : List Int, xs.length ≤ n ∧ wr.ownsRow w.heap.size 3 1 v xs.length (ints xs) ∧ Reader wr R B (N + 1 + 10 * xs.length) ∧ w.grownBy wr (some R)) (fun v _ => n - lenV v)
  case atStart => exact ⟨[], Nat.zero_le _, World.ownsRow_made w1 #[] 0 z1 (by simp [maxLen]) rfl, rd1.grown_alloc _, hg1.trans (World.grownBy_alloc _ _ _)⟩
  case round =>
    obtain ⟨xs, hxl, hown, rd, hg⟩ := hrel
    obtain ⟨A0, c0, rfl, _⟩ := own_row hown
    have zo := hg.size
    by_cases hln : xs.length < n
    · have HO := hide hown
      have HG := hide hg
      have HR := hide rd
      clear hown hg rd
      go_wp2_with fail
      go_loopw [5, 6] (fun s i wi => ∃ (k y : Nat), i = .int .i64 (k : Int) ∧ s = .int .i64 (y : Int) ∧ k ≤ n ∧ y ≤ 100 * k ∧ wi.ownsRow w.heap.size 3 1 (.slice A0 xs.length c0) xs.length (ints xs) ∧ Reader wi R B (N + 1 + 10 * xs.length + 2 * k) ∧ w.grownBy wi (some R)) (fun _ i _ => n - (intOf i).toNat)
      case atStart => exact ⟨0, 0, rfl, rfl, Nat.zero_le _, Nat.zero_le _, HO.out, HR.out, HG.out⟩
      case round =>
        obtain ⟨k, y, rfl, rfl, hk, hy, hown, rd, hg⟩ := hrel
        obtain ⟨wo, rfl⟩ : ∃ wo : World, wo = wr := ⟨_, rfl⟩
        have zi := hg.size
        by_cases hkn : k < n
        · go_wp2_with fail
          refine (pick_c 3 R B _ _ rd (by omega) (by omega) (by omega)).mono ?_
          rintro e w2 ⟨a, rfl, _, _, rd2, hg2⟩
          have own2 := own_aside hown hlt hg2
          have hg2 := hg.trans hg2
          have hpw := hide (specPower_c k (by omega))
          obtain ⟨p1, p2⟩ := pow_bd (n := k) (by omega)
          generalize (2 ^ k : Nat) = P at *
          by_cases ha : 0 < a
          · by_cases hn5 : n < 5
            · go_wp2_with fail
              refine (hpw.out _).mono ?_
              rintro e w3 ⟨rfl, rfl⟩
              go_wp2_with fail
              exact ⟨⟨k + 1, y + P, rfl, by push_cast; rfl, hkn, by omega, own2, rd2.mono (by omega), hg2⟩, by simp [intOf]; omega⟩
            · go_wp2_with fail
              refine (pick_c 2 R B _ _ rd2 (by omega) (by omega) (by omega)).mono ?_
              rintro e w3 ⟨b, rfl, _, _, rd3, hg3⟩
              have own3 := own_aside own2 hlt hg3
              have hg3 := hg2.trans hg3
              cases hb : (b == 0) with
              | true =>
                go_wp2_with fail
                refine (hpw.out _).mono ?_
                rintro e w4 ⟨rfl, rfl⟩
                go_wp2_with fail
                exact ⟨⟨k + 1, y + P, rfl, by push_cast; rfl, hkn, by omega, own3, rd3.mono (by omega), hg3⟩, by simp [intOf]; omega⟩
              | false =>
                go_wp2_with fail
                exact ⟨⟨k + 1, y, rfl, rfl, hkn, by omega, own3, rd3.mono (by omega), hg3⟩, by simp [intOf]; omega⟩
          · go_wp2_with fail
            exact ⟨⟨k + 1, y, rfl, rfl, hkn, by omega, own2, rd2.mono (by omega), hg2⟩, by simp [intOf]; omega⟩
        · go_wp2_with ((at_builtin; refine put_own rfl (.tmp 36) (.tmp 38) rfl Try.underlying22 elem_intd rfl (hown.alloc _) rfl (m := 1) (news := [.int .i64 (y : Int)]) rfl (row_new _ _ _ rfl) (by simp [Value.oneCell']) (by omega) (by omega) (by simp; omega) ?_; intro v3 w3 hown3 hg3 ho3))
          have own1' := hown.alloc (.cells #[.int .i64 (y : Int)] 3)
          go_round
          case rel => exact ⟨xs ++ [(y : Int)], by simp; omega, by simpa using hown3, ((rd.grown_alloc _).grown hg3 (fun j e => by have := (own1'.lt j e).1; omega)).mono (by simp; omega), grown_own (hg.trans (World.grownBy_alloc _ _ _)) own1' (Nat.le_refl _) hg3⟩
          case measure => rw [own_lenV hown3]; simp [lenV]; omega
    · obtain ⟨g0, c1, e0, _, _, _, g1, g2⟩ := own_one hown (by omega)
      injection e0 with e0 _ e2
      subst e0 e2
      go_wp2_with fail
      refine (pick_c 40 R B _ _ rd (by omega) (by omega) (by omega)).mono ?_
      rintro e w2 ⟨a, rfl, _, _, rd2, hg2⟩
      have own2 := own_aside hown hlt hg2
      have hg2 := hg.trans hg2
      have z2 := hg2.size
      have hpw := hide (specPower_c n (by omega))
      obtain ⟨p1, p2⟩ := pow_bd (n := n) (by omega)
      generalize (2 ^ n : Nat) = P at *
      clear hown rd hg
      cases h0 : (a == 0) with
      | true =>
        go_wp2_with fail
        refine (hpw.out _).mono ?_
        rintro e w3 ⟨rfl, rfl⟩
        go_wp2_with fail
        refine (one_new [-1, (P : Int)] R B _ _ rd2 (by omega) (by simp) (by simp)).mono ?_
        rintro e w4 ⟨y, rfl, _, rd4, hg4⟩
        have own4 := own_aside own2 hlt hg4
        have hg4 := hg2.trans hg4
        obtain ⟨ost, gst⟩ := own4.stored 0 (.int .i64 y)
        rw [ints_set'] at ost
        have hfree := own4.frozenAt 0
        have hcell := own4.cellAt 0 (by omega)
        rw [List.getElem?_eq_getElem (by simp; omega)] at hcell
        have Ost := hide ost
        have Gst := hide gst
        have Rd := hide (rd4.grown gst (fun j e => by injection e with e; omega))
        have Hg := hide (grown_own hg4 own4 (Nat.le_refl _) gst)
        clear ost gst own4 rd4 hg4 rd2 hg2
        go_wp2_with fail
        go_ret
        refine ⟨_, xs.set 0 y, rfl, ?_, by simp; omega, Rd.out.mono (by omega), Hg.out⟩
        rw [List.length_set]
        exact Ost.out
      | false =>
        cases h1 : (a == 1) with
        | true =>
          go_wp2_with fail
          go_ret
          exact ⟨_, [], rfl, World.ownsRow_made w2 #[] 0 z2 (by simp [maxLen]) rfl, by simp, (rd2.grown_alloc _).mono (by omega), hg2.trans (World.grownBy_alloc _ _ _)⟩
        | false =>
          go_wp2_with fail
          go_ret
          exact ⟨_, xs, rfl, own2, by omega, rd2.mono (by omega), hg2⟩

def DrawnSeats (w : World) (e : Ending) (w' : World) : Prop := ∃ v xs, e = .returned v ∧ w'.ownsRow w.heap.size 3 1 v (List.length xs) (ints xs) ∧ xs.length ≤ 5 ∧ Below w.heap.size w w'
theorem drawRookCounts_c (A : Option Addr) (n c : Nat) (w : World) (h : Code w A n c) : Calls Try.prog 18 #[.slice A n c] w (DrawnSeats w) := by
  have HC := hide (newReader_c A n c w h)
  clear h
  go_enter Try.func18, Try.ntmps18
  go_wp2_with fail
  refine HC.out.mono ?_
  rintro e w1 ⟨R, rfl, rd, hb⟩
  have hR : w.heap.size ≤ R := by obtain ⟨_, _, _, _, _, _, _, h, _⟩ := rd; exact h
  go_wp2_with fail
  refine (someSeats_c R _ 0 w1 rd (by omega)).mono ?_
  rintro e w2 ⟨v, xs, rfl, own, hl, rd2, hg2⟩
  go_wp2_with fail
  go_ret
  exact ⟨v, xs, rfl, own_mono own hb.size, hl, below_reader hb hR hg2⟩
theorem drawOtherSeats_c (A : Option Addr) (n c : Nat) (w : World) (h : Code w A n c) : Calls Try.prog 14 #[.slice A n c] w (DrawnSeats w) := by
  have HC := hide (newReader_c A n c w h)
  clear h
  go_enter Try.func14, Try.ntmps14
  go_wp2_with fail
  refine HC.out.mono ?_
  rintro e w1 ⟨R, rfl, rd, hb⟩
  have hR : w.heap.size ≤ R := by obtain ⟨_, _, _, _, _, _, _, h, _⟩ := rd; exact h
  go_wp2_with fail
  refine (someSeats_c R _ 0 w1 rd (by omega)).mono ?_
  rintro e w2 ⟨v, xs, rfl, own, hl, rd2, hg2⟩
  go_wp2_with fail
  go_ret
  exact ⟨v, xs, rfl, own_mono own hb.size, hl, below_reader hb hR hg2⟩
theorem drawFullByOthers_c (A : Option Addr) (n c : Nat) (w : World) (h : Code w A n c) : Calls Try.prog 11 #[.slice A n c] w (DrawnSeats w) := by
  have HC := hide (newReader_c A n c w h)
  clear h
  go_enter Try.func11, Try.ntmps11
  go_wp2_with fail
  refine HC.out.mono ?_
  rintro e w1 ⟨R, rfl, rd, hb⟩
  have hR : w.heap.size ≤ R := by obtain ⟨_, _, _, _, _, _, _, h, _⟩ := rd; exact h
  go_wp2_with fail
  refine (someSeats_c R _ 0 w1 rd (by omega)).mono ?_
  rintro e w2 ⟨v, xs, rfl, own, hl, rd2, hg2⟩
  go_wp2_with fail
  go_ret
  exact ⟨v, xs, rfl, own_mono own hb.size, hl, below_reader hb hR hg2⟩

theorem Seats.reverse {l : List Int} (h : Seats l) : Seats l.reverse := by
  obtain ⟨h1, h2⟩ := h
  refine ⟨by simpa using h1, fun i hi => ?_⟩
  rw [List.length_reverse] at hi ⊢
  have := h2 (l.length - 1 - i) (by omega)
  rw [List.getElem?_reverse hi]
  exact this
theorem drop_step (xs : List Int) (k : Nat) (hk : k < xs.length) : (xs.drop (k + 1)).reverse ++ [xs[k]?.getD 0] = (xs.drop k).reverse := by
  rw [List.drop_eq_getElem_cons hk, List.reverse_cons, List.getElem?_eq_getElem hk]; rfl
end Go.Proofs.Ytlccohoblplddab
