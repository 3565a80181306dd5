
/-
  The walk of the law FnFoldOrder.
-/
import Derived.Test.YtakphmcelhbaiabPChaseG
import Derived.Test.YtakphmcelhbaiabPGuardD
import Derived.Test.YtakphmcelhbaiabLawKD
import Derived.Test.YtakphmcelhbaiabDrawM
import Derived.Test.YtakphmcelhbaiabGuardN
import Derived.Test.YtakphmcelhbaiabDiffW
namespace Go.Proofs.Ytakphmcelhbaiab
open Go.RowKit
set_option linter.unusedVariables false

theorem nodup_not {l : List Nat} (h : l.Nodup) : ∀ i, i < (natI l).length → ¬ (natI l)[i]?.getD 0 ∈ (natI l).take i := fun i hi hm => by
  rw [natI_len] at hi
  rw [natI_at] at hm
  unfold natI at hm
  rw [← List.map_take] at hm
  obtain ⟨x, hx, e⟩ := List.mem_map.1 hm
  have e : x = l[i]?.getD 0 := Int.ofNat.inj e
  rw [List.getElem?_eq_getElem hi, Option.getD_some] at e
  subst e
  obtain ⟨j, hj, e⟩ := List.getElem_of_mem hx
  rw [List.length_take] at hj
  rw [List.getElem_take] at e
  have := (List.getElem_inj h).1 e
  omega
set_option maxHeartbeats 4000000 in
set_option maxRecDepth 100000 in
theorem foldOrder_w (A : Option Addr) (n c : Nat) (w : World) (h : Code w A n c) : Calls Try.prog 4 #[.slice A n c] w (Plain (.bool true) w) := by
  by_cases hl : 1048576 < (n : Int)
  · go_enter Try.func4, Try.ntmps4
    go_wp2
    go_ret
    exact ⟨rfl, Below.refl _ _⟩
  · have HC := hide (drawFoldOrder_c A n c w h)
    clear h
    go_enter Try.func4, Try.ntmps4
    go_wp2_with fail
    refine HC.out.mono ?_
    rintro e w1 ⟨bc, br, s, rfl, -, -, -, b1⟩
    have HI1 := hide (fun w5 => implFoldOrder_c bc br s w5)
    have HS1 := hide (fun w5 => specFoldOrder_c bc br s w5)
    have HV1 := hide (fun w5 => implValidSmall_c bc br s w5)
    have HT1 := hide (fun w5 => implFoldOrder_c br bc s w5)
    have hsh := fold_short bc br s.toList
    clear HC
    cases hk : smallK bc br s.toList with
    | none =>
      rw [hk] at HV1
      have hvn : (none : Option (List (Int × Int) × Bool)).isSome = false := rfl
      rw [hvn] at HV1
      clear hk HT1 hvn
      rw [← natI_len (foldV bc br s.toList)] at HI1 HS1 hsh
      generalize natI (foldV bc br s.toList) = L at *
      have HEQ := hide (fun (A C : Option Addr) (ca cc : Nat) (w5 : World) (ha : Row w5 A (ints L)) (hc : Row w5 C (ints L)) => show Calls Try.prog _ #[.slice A L.length ca, .slice C L.length cc] w5 (Plain (.bool true) w5) by
        have := equalInts_c A C L L ca cc w5 ha hc (by simp [maxLen]; omega) (by simp [maxLen]; omega)
        rwa [decide_eq_true rfl] at this)
      go_wp2_with fail
      refine (HI1.out _).mono ?_
      rintro e w2 ⟨v2, rfl, o2, b2⟩
      obtain ⟨A2, c2, rfl, _⟩ := own_row o2
      have R2 := hide (own_reads o2)
      have b12 := below_then b1 b1.size b2
      clear o2
      go_wp2_with fail
      refine (HS1.out _).mono ?_
      rintro e w3 ⟨v3, rfl, o3, b3⟩
      obtain ⟨A3, c3, rfl, _⟩ := own_row o3
      have R3 := hide (own_reads o3)
      have R2 := hide (R2.out.below b3)
      have b13 := below_then b12 b12.size b3
      clear o3
      go_wp2_with fail
      refine (HEQ.out _ _ _ _ _ R2.out R3.out).mono ?_
      rintro e w4 ⟨rfl, b4⟩
      have R2 := hide (R2.out.below b4)
      have b14 := below_then b13 b13.size b4
      go_wp2_with fail
      refine (HV1.out _).mono ?_
      rintro e w5 ⟨rfl, b5⟩
      have R2 := hide (R2.out.below b5)
      have b15 := below_then b14 b14.size b5
      go_wp2_with fail
      refine (HS1.out _).mono ?_
      rintro e w6 ⟨v6, rfl, o6, b6⟩
      obtain ⟨A6, c6, rfl, _⟩ := own_row o6
      have R6 := hide (own_reads o6)
      have R2 := hide (R2.out.below b6)
      have b16 := below_then b15 b15.size b6
      clear o6
      go_wp2_with fail
      refine (HEQ.out _ _ _ _ _ R2.out R6.out).mono ?_
      rintro e w7 ⟨rfl, b7⟩
      have b17 := below_then b16 b16.size b7
      go_wp2_with fail
      go_ret
      exact ⟨rfl, b17⟩
    | some p =>
      obtain ⟨ss, far⟩ := p
      obtain ⟨a, b, rfl, rfl, ha, hb, hab, hok⟩ := chase_facts hk
      have ff := fold_facts hok
      have f1 := ff.nodup
      have f2 := ff.short
      have f3 := ff.alike
      have g1 : foldV (a : Int) (b : Int) s.toList = foldN (setsP a b far ss) := by unfold foldV; rw [hk]
      have g2 : foldV (b : Int) (a : Int) s.toList = foldN (setsP b a far ss) := by unfold foldV; rw [smallK_turn, hk]
      rw [hk, Option.isSome_some] at HV1
      rw [g1] at HI1 HS1 hsh
      rw [g2] at HT1
      clear hk hok ff g1 g2
      simp only at f1 f2 f3
      generalize foldN (setsP (b : Int) (a : Int) far ss) = G at *
      generalize foldN (setsP (a : Int) (b : Int) far ss) = F at *
      have hnd := nodup_not f1
      rw [← natI_len F] at HI1 HS1 hsh f2
      rw [f3, ← natI_len F] at HT1
      generalize natI F = L at *
      have e0 : IntKind.i64.wrap ((a : Int) * (b : Int)) = ((a * b : Nat) : Int) := (IntWalk.i64_in _ (by rw [← Int.natCast_mul]; omega)).trans (by rw [Int.natCast_mul])
      obtain ⟨m, hm⟩ : ∃ m, a * b = m := ⟨_, rfl⟩
      rw [hm] at e0 f2 hab
      have hlm : (L.length : Int) < (m : Int) := by omega
      have hll : ((L.length : Int) == (L.length : Int)) = true := by simp
      have HEQ := hide (fun (A C : Option Addr) (ca cc : Nat) (w5 : World) (ha : Row w5 A (ints L)) (hc : Row w5 C (ints L)) => show Calls Try.prog _ #[.slice A L.length ca, .slice C L.length cc] w5 (Plain (.bool true) w5) by
        have := equalInts_c A C L L ca cc w5 ha hc (by simp [maxLen]; omega) (by simp [maxLen]; omega)
        rwa [decide_eq_true rfl] at this)
      have HDF := hide (fun (A : Option Addr) (c : Nat) (w5 : World) (hr : Row w5 A (ints L)) (h1 : L.length ≤ c) (h2 : c ≤ maxLen) => different_cD A c L w5 hr (by omega) h1 h2 hnd)
      clear f1 f2 f3 hm hnd
      go_wp2_with fail
      refine (HI1.out _).mono ?_
      rintro e w2 ⟨v2, rfl, o2, b2⟩
      obtain ⟨A2, c2, rfl, hc1, hc2, _⟩ := own_row o2
      have HC1 := hide hc1
      have HC2 := hide hc2
      have R2 := hide (own_reads o2)
      have b12 := below_then b1 b1.size b2
      clear o2 hc1 hc2
      go_wp2_with fail
      refine (HS1.out _).mono ?_
      rintro e w3 ⟨v3, rfl, o3, b3⟩
      obtain ⟨A3, c3, rfl, _⟩ := own_row o3
      have R3 := hide (own_reads o3)
      have R2 := hide (R2.out.below b3)
      have b13 := below_then b12 b12.size b3
      clear o3
      go_wp2_with fail
      refine (HEQ.out _ _ _ _ _ R2.out R3.out).mono ?_
      rintro e w4 ⟨rfl, b4⟩
      have R2 := hide (R2.out.below b4)
      have b14 := below_then b13 b13.size b4
      go_wp2_with fail
      refine (HV1.out _).mono ?_
      rintro e w5 ⟨rfl, b5⟩
      have R2 := hide (R2.out.below b5)
      have b15 := below_then b14 b14.size b5
      go_wp2_with fail
      refine (HDF.out _ _ _ R2.out HC1.out HC2.out).mono ?_
      rintro e w6 ⟨rfl, b6⟩
      have b16 := below_then b15 b15.size b6
      go_wp2_with fail
      refine (HT1.out _).mono ?_
      rintro e w7 ⟨v7, rfl, o7, b7⟩
      obtain ⟨A7, c7, rfl, _⟩ := own_row o7
      have b17 := below_then b16 b16.size b7
      clear o7
      go_wp2_with fail
      go_ret
      exact ⟨rfl, b17⟩
end Go.Proofs.Ytakphmcelhbaiab
