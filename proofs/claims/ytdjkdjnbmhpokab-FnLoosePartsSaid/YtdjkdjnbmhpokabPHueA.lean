
/-
  The program's parts of colours: Clone, free, put.
-/
import Derived.Test.YtdjkdjnbmhpokabHueQ
import Derived.Test.YtdjkdjnbmhpokabPGuardA
import Derived.Lib.SliceRun
import Derived.StillTailTactics
import Derived.OwnWalk
namespace Go.Proofs.Ytdjkdjnbmhpokab
open Go.RowKit
set_option linter.unusedVariables false

theorem elemPaint : Elem Try.prog 46 1 8 := Elem.of (z := .int .i64 0) (by kernel_rfl) rfl (by omega)
theorem clonePaint_c (A : Option Addr) (c : Nat) (l : List Int) (w : World) (hr : Row w A (ints l)) (hA : A = none → l = []) (hm : l.length ≤ 10) :
    Calls Try.prog 42 #[.slice A l.length c] w (Owns 46 1 l.length (ints l) w) := by
  have q22 : ∀ (w : World) (a : Option Addr) (n c n' c' : Nat), (binOp .eql 44 (.slice a n c) (.slice none n' c')).run Try.prog w = .ok (.bool a.isNone) w := fun w a n c n' c' => Lib.run_eql_slice_nil w _ _ a n c n' c' Try.underlying44
  cases A with
  | none =>
    obtain rfl := hA rfl
    go_enter Try.func42, Try.ntmps42
    go_wp2_with fail
    go_ret
    exact ⟨_, rfl, World.ownsRow_nil _ _ _ _, Below.refl _ _⟩
  | some ad =>
    have oe := World.ownsRow_made (base := w.heap.size) (e := 46) (size := 1) w #[] 0 (Nat.le_refl _) (by simp [maxLen]) rfl
    have hb := (Below.refl w.heap.size w).alloc (Nat.le_refl _) (.cells #[] 46)
    have hr2 := hr.below hb
    clear hA
    go_enter Try.func42, Try.ntmps42
    go_wp2_with ((at_builtin; refine put_own rfl (.tmp 5) (.tmp 6) rfl Try.underlying44 elemPaint rfl oe rfl (m := l.length) (news := ints l) (by simp) hr2 (one_ints _) (by omega) (by omega) hb.size ?_; intro v2 w2 own2 hg2 ho2))
    go_ret
    exact ⟨v2, rfl, by simpa using own2, below_grown hb hb.size oe (Nat.le_refl _) hg2⟩
set_option maxHeartbeats 1000000 in
theorem freePaint_c (A : Option Addr) (c : Nat) (p : List Nat) (y : Nat) (w : World) (hr : Row w A (ints (natI p))) (hp : ∀ j : Nat, p[j]?.getD 0 < 512) (hy : y < 512) (hl : p.length ≤ 10) :
    Calls Try.prog 44 #[.slice A p.length c, .int .i64 (y : Int)] w (Owns 3 1 (freeL p y).length (ints (natI (freeL p y))) w) := by
  have HR := hide hr
  have HP := hide hp
  have HE : Hid (freeL p y = freeTo p y p.length) := rfl
  have HS := hide (fun k => show freeTo p y (k + 1) = if p[k]?.getD 0 &&& y = 0 then freeTo p y k ++ [k] else freeTo p y k from rfl)
  have HN := hide (fun k => free_len p y k)
  have H0 : Hid (freeTo p y 0 = []) := rfl
  generalize freeTo p y = F at *
  clear hr hp
  go_enter Try.func44, Try.ntmps44
  go_wp2_with fail
  go_loopw [5, 10] (fun v i wr => ∃ k : Nat, k ≤ p.length ∧ i = .int .i64 (k : Int) ∧ wr.ownsRow w.heap.size 3 1 v (F k).length (ints (natI (F k))) ∧ Below w.heap.size w wr) (fun _ i _ => p.length - (intOf i).toNat)
  case atStart => exact ⟨0, Nat.zero_le _, rfl, by rw [H0.out]; exact World.ownsRow_nil _ _ _ _, Below.refl _ _⟩
  case round =>
    obtain ⟨k, hk, rfl, hown, hb⟩ := hrel
    obtain ⟨wo, rfl⟩ : ∃ wo : World, wo = wr := ⟨_, rfl⟩
    by_cases hlt : k < p.length
    · obtain ⟨ad, rfl, hcA⟩ := (HR.out.below hb).int (k := k) (by rw [natI_len]; exact hlt)
      rw [natI_at] at hcA
      have hx := HP.out k
      have HSk := hide (HS.out k)
      have hn := HN.out k
      generalize p[k]?.getD 0 = x at *
      obtain ⟨ea, ba⟩ := i64_and9 x y hx hy
      have k0 : (0 : Int) ≤ (k : Int) := by omega
      have k1 : (k : Int) < (p.length : Int) := by omega
      by_cases hz : x &&& y = 0
      · rw [hz] at ea
        have HV := hide (HSk.out.trans (if_pos hz))
        have HVI := hide (show natI (F (k + 1)) = natI (F k) ++ [(k : Int)] by rw [HV.out, natI_snocP])
        have HVL := hide (show (F (k + 1)).length = (F k).length + 1 by rw [HV.out, List.length_append, List.length_singleton])
        have own1 := hown.alloc (.cells #[.int .i64 (k : Int)] 3)
        have b1 := hb.alloc hb.size (.cells #[.int .i64 (k : Int)] 3)
        clear hz HSk ba
        go_wp2_with ((at_builtin; refine put_own rfl (.tmp 19) (.tmp 21) rfl Try.underlying27 elem_int' rfl own1 rfl (m := 1) (news := [.int .i64 (k : Int)]) rfl (row_new _ _ _ rfl) (by simp [Value.oneCell']) (by omega) (by omega) b1.size ?_
                      intro v3 w3 own3 hg3 ho3
                      have b3 := hide (below_grown b1 b1.size own1 (Nat.le_refl _) hg3)
                      have own3 : w3.ownsRow w.heap.size 3 1 v3 (F (k + 1)).length (ints (natI (F (k + 1)))) := by rw [HVI.out, HVL.out]; simpa [ints] using own3
                      have O3 := hide own3))
        exact ⟨⟨k + 1, hlt, by go_num, O3.out, b3.out⟩, by simp [intOf]; omega⟩
      · have HV := hide (HSk.out.trans (if_neg hz))
        have hzi : (((x &&& y : Nat) : Int) == 0) = false := by rw [beq_eq_false_iff_ne]; omega
        generalize x &&& y = z at *
        have O3 := hide hown
        have B3 := hide hb
        clear hz HSk hown hb
        go_wp2_with fail
        exact ⟨⟨k + 1, hlt, by go_num, by rw [HV.out]; exact O3.out, B3.out⟩, by simp [intOf]; omega⟩
    · obtain rfl : k = p.length := by omega
      rw [← HE.out] at hown
      go_wp2_with fail
      go_ret
      exact ⟨_, rfl, hown, hb⟩
set_option maxHeartbeats 2000000 in
set_option maxRecDepth 100000 in
theorem putPaint_c (A : Option Addr) (c j : Nat) (p : List Nat) (C : Option Addr) (cc : Nat) (l : List Int) (w : World) (hr : Row w A (ints (natI p))) (hA : A = none → p = []) (hj : j ≤ p.length) (hl : p.length ≤ 9) (hp : ∀ j : Nat, p[j]?.getD 0 < 512)
    (hc : Row w C (ints l)) (hcl : ∀ i, i < l.length → 0 ≤ l[i]?.getD 0 ∧ l[i]?.getD 0 < 9) (hm : l.length ≤ 9) :
    Calls Try.prog 26 #[.slice A p.length c, .int .i64 (j : Int), .slice C l.length cc] w (Owns 46 1 (putS p j (orL l)).length (ints (natI (putS p j (orL l)))) w) := by
  have HC := hide (clonePaint_c A c (natI p) w hr (fun e => by rw [hA e]; rfl) (by rw [natI_len]; omega))
  rw [natI_len] at HC
  have HSU := hide (fun (w5 : World) (h5 : Row w5 C (ints l)) => sumOf_c C cc l w5 h5 hcl (by omega))
  have hob : orL l < 512 := by have := orL_bd l hcl l.length (Nat.le_refl _); rwa [List.take_length] at this
  generalize orL l = x at *
  have HRC := hide hc
  clear hr hA hc hcl
  obtain ⟨q, hq⟩ : ∃ q, p.length = q := ⟨_, rfl⟩
  rw [hq] at HC hj hl ⊢
  by_cases hjq : j = q
  · have HNL : Hid ((putS p j x).length = q + 1) := by show _ = _; rw [hjq, ← hq, put_new_len]
    have HNS : Hid ((ints (natI p) ++ [Value.int .i64 0]).set j (.int .i64 (x : Int)) = ints (natI (putS p j x))) := by
      show _ = _
      rw [hjq, ← hq, ← put_set_new]
      simp [ints, natI]
    have HAT : Hid ((ints (natI p) ++ [Value.int .i64 0])[j]? = some (.int .i64 0)) := by
      show _ = _
      rw [hjq, ← hq]
      simp [ints, natI]
    have eo : bits .or .i64 0 (x : Int) = (x : Int) := by
      have := (i64_or9 0 x (by omega) hob).1
      rw [Nat.zero_or] at this
      exact this
    have hqj : ((j : Int) == (q : Int)) = true := by rw [beq_iff_eq]; omega
    have j0 : (0 : Int) ≤ (j : Int) := by omega
    have j1 : (j : Int) < (q : Int) + 1 := by omega
    have j2 : (j : Int) < ((q + 1 : Nat) : Int) := by omega
    have hjq1 := hide (show j < q + 1 by omega)
    clear hq hp hjq
    generalize putS p j x = P at *
    go_enter Try.func26, Try.ntmps26
    go_wp2_with fail
    refine HC.out.mono ?_
    rintro e1 w1 ⟨v1, rfl, o1, b1⟩
    obtain ⟨A1, c1, rfl, _, _, _, _⟩ := own_row o1
    have o1a := o1.alloc (.cells #[.int .i64 0] 46)
    have b1a := b1.alloc b1.size (.cells #[.int .i64 0] 46)
    go_wp2_with ((at_builtin; refine put_own rfl (.tmp 14) (.tmp 15) rfl Try.underlying44 elemPaint rfl o1a rfl (m := 1) (news := [.int .i64 0]) rfl (row_new _ _ _ rfl) (by simp [Value.oneCell']) (by omega) (by omega) b1a.size ?_
                  intro v2 w2 own2 hg2 ho2
                  have b2 := below_grown b1a b1a.size o1a (Nat.le_refl _) hg2
                  obtain ⟨g2, c2, rfl, _, _, _, _, _⟩ := own_one own2 (by omega)
                  have hc2 := own2.cellAt j (by have := hjq1.out; omega)
                  rw [HAT.out] at hc2
                  have hf2 := own2.frozenAt j
                  have hrc := HRC.out.below b2
                  clear o1 o1a b1 b1a hg2 ho2))
    refine wp_region_still_tail 8 (by kernel_rfl) (by kernel_rfl) ?_
    simp only [List.take_succ_cons, List.take_zero, List.drop_succ_cons, List.drop_zero]
    repeat still_step
    still_call ((HSU.out w2.drew hrc).mono (fun _ _ h => ⟨h.1, h.2.symm⟩))
    repeat still_step
    try refine wpStill_nil ?_
    have o2d := own2.drew
    have b2d := b2.drew
    have hc2d : w2.drew.cell? ⟨g2, j, none⟩ = some (.int .i64 0) := hc2
    have hf2d : w2.drew.frozen? ⟨g2, j, none⟩ = false := hf2
    change wpList _ _ _ _ _ w2.drew
    clear own2 b2 hc2 hf2 hrc
    generalize w2.drew = w3 at *
    obtain ⟨ost, gst⟩ := o2d.stored j (.int .i64 (x : Int))
    rw [HNS.out] at ost
    have B3 := hide (b2d.grown gst b2d.size (fun n e => by injection e with e; omega))
    have O3 := hide ost
    clear ost gst
    go_wp2_with fail
    go_ret
    exact ⟨_, rfl, by rw [HNL.out]; exact O3.out, B3.out⟩
  · have hjl : j < p.length := by omega
    have HNL : Hid ((putS p j x).length = q) := by show _ = _; rw [put_len x hjl, hq]
    have hxy := hp j
    have hcat := natI_at p j
    obtain ⟨z, hz⟩ : ∃ z, p[j]?.getD 0 = z := ⟨_, rfl⟩
    have HNS := hide (put_set (x := x) hjl rfl)
    rw [hz] at hxy hcat HNS
    obtain ⟨eo, bo⟩ := i64_or9 z x hxy hob
    have HAT : Hid ((ints (natI p))[j]? = some (.int .i64 (z : Int))) := by
      show _ = _
      have h1 : j < (natI p).length := by rw [natI_len]; exact hjl
      rw [List.getElem?_eq_getElem h1, Option.getD_some] at hcat
      rw [ints, List.getElem?_map, List.getElem?_eq_getElem h1, Option.map_some, hcat]
    generalize z ||| x = y at *
    have hqj : ((j : Int) == (q : Int)) = false := by rw [beq_eq_false_iff_ne]; omega
    have j0 : (0 : Int) ≤ (j : Int) := by omega
    have j1 : (j : Int) < (q : Int) := by omega
    have hjq1 := hide (show j < q by omega)
    clear hq hp hjq hz hcat hjl
    generalize putS p j x = P at *
    go_enter Try.func26, Try.ntmps26
    go_wp2_with fail
    refine HC.out.mono ?_
    rintro e1 w2 ⟨v1, rfl, own2, b2⟩
    obtain ⟨g2, c2, rfl, _, _, _, _, _⟩ := own_one own2 (by have := hjq1.out; omega)
    have hc2 := own2.cellAt j (by have := hjq1.out; omega)
    rw [HAT.out] at hc2
    have hf2 := own2.frozenAt j
    have hrc := HRC.out.below b2
    go_wp2_with fail
    refine wp_region_still_tail 8 (by kernel_rfl) (by kernel_rfl) ?_
    simp only [List.take_succ_cons, List.take_zero, List.drop_succ_cons, List.drop_zero]
    repeat still_step
    still_call ((HSU.out w2.drew hrc).mono (fun _ _ h => ⟨h.1, h.2.symm⟩))
    repeat still_step
    try refine wpStill_nil ?_
    have o2d := own2.drew
    have b2d := b2.drew
    have hc2d : w2.drew.cell? ⟨g2, j, none⟩ = some (.int .i64 (z : Int)) := hc2
    have hf2d : w2.drew.frozen? ⟨g2, j, none⟩ = false := hf2
    change wpList _ _ _ _ _ w2.drew
    clear own2 b2 hc2 hf2 hrc
    generalize w2.drew = w3 at *
    obtain ⟨ost, gst⟩ := o2d.stored j (.int .i64 (y : Int))
    rw [HNS.out] at ost
    have B3 := hide (b2d.grown gst b2d.size (fun n e => by injection e with e; omega))
    have O3 := hide ost
    clear ost gst
    go_wp2_with fail
    go_ret
    exact ⟨_, rfl, by rw [HNL.out]; exact O3.out, B3.out⟩
end Go.Proofs.Ytdjkdjnbmhpokab
