
/-
  Walks: the program's onward and WalkCount.
-/
import Derived.Test.YtoapmmmmdfmaeaaPWalkF
import Derived.Test.YtoapmmmmdfmaeaaWalkD
import Derived.StillTailTactics
import Derived.OwnWalk
namespace Go.Proofs.Ytoapmmmmdfmaeaa
open Go.RowKit
set_option linter.unusedVariables false

set_option maxHeartbeats 4000000 in
set_option maxRecDepth 100000 in
theorem onward_c (A1 A2 : Option Addr) (c1 c2 n : Nat) (L : List Nat) (v : Nat → Nat) (W : World) (hlen : L.length = n) (hn1 : 1 ≤ n) (h9s : Sets9 L) (hv : ∀ c, v c ≤ 43046721) (hr1 : Row W A1 (ints (natI L))) (hr2 : Row W A2 (ints (natI (rowM n v)))) :
    Calls Try.prog 20 #[.slice A1 n c1, .slice A2 n c2] W (Owns 3 1 n (ints (natI (rowM n fun b => sm (fun c => v c * goesN L c b) n))) W) := by
  have hn9 : n ≤ 9 := by have := h9s.len; omega
  have HR1 := hide hr1
  have HR2 := hide hr2
  have HVL := hide hv
  have HBD := hide h9s.bd
  have HN0 := hide (next_zero L v n)
  have HNR := hide (fun a => next_row L v a n)
  have HNS := hide (fun a k => next_step L v n (a := a) (k := k))
  have HNH := hide (next_here L v)
  have HNL := hide (fun a k => next_le (L := L) hv a k)
  have HNE := hide (show rowM n (nextF L v n 0) = rowM n (fun b => sm (fun c => v c * goesN L c b) n) from rowM_congr fun b hb => if_neg (by omega))
  have HGO : Hid (∀ a b, bitN (L[a]?.getD 0) b = goesN L a b) := fun a b => rfl
  have HL1 := hide (show (natI L).length = n by rw [natI_len]; exact hlen)
  have HL2 := hide (show (natI (rowM n v)).length = n by rw [natI_len]; exact rowM_len n v)
  obtain ⟨i0, hi0, hz0, hz1, hz2⟩ := made_infoW (P := Try.prog) (e := 3) (z := .int .i64 0) (size := 1) (bytes := 8) (by kernel_rfl)
  clear hr1 hr2 hv h9s hlen
  go_enter Try.func20, Try.ntmps20
  go_wp2_with ((at_make; refine wpList_make_full _ rfl (.tmp 10) (.tmp 10) 27 rfl W.heap.size 3 i0 (.int .i64 0) 1 Try.underlying27 hi0 hz0 hz1 .i64 .i64 n n n rfl rfl rfl rfl (by rw [hz2]; omega) (by simp [maxLen]; omega) (Nat.le_refl _) ?_; intro w6 own6 hg6; have own6 := made_intsW rfl own6; rw [ints_zeros, ← HN0.out] at own6; have b6 := (Below.refl W.heap.size W).grown hg6 (Nat.le_refl _) (fun k h => by cases h); clear hg6))
  go_loopw [14] (fun xv wr => ∃ a : Nat, a ≤ n ∧ xv = .int .i64 (a : Int) ∧ wr.ownsRow W.heap.size 3 1 (.slice (some ⟨W.heap.size, 0, none⟩) n n) n (ints (natI (rowM n (nextF L v a 0)))) ∧ Below W.heap.size W wr) (fun xv _ => n - (intOf xv).toNat)
  case atStart => exact ⟨0, Nat.zero_le _, rfl, own6, b6⟩
  case round =>
    clear own6 b6
    obtain ⟨a, ha, rfl, hown, hb⟩ := hrel
    obtain ⟨wa, rfl⟩ : ∃ wa : World, wa = wr := ⟨_, rfl⟩
    by_cases han : a < n
    · have a1 : (a : Int) < (n : Int) := by omega
      have a0 : (0 : Int) ≤ (a : Int) := by omega
      have HAN := hide han
      obtain ⟨ad1, rfl, hcl⟩ := (HR1.out.below hb).int (k := a) (by rw [HL1.out]; exact han)
      rw [natI_at] at hcl
      have HBa := hide (HBD.out a)
      have HGa := hide (HGO.out a)
      generalize L[a]?.getD 0 = la at *
      go_wp2_with fail
      go_loopw [21] (fun yv wr => ∃ b : Nat, b ≤ n ∧ yv = .int .i64 (b : Int) ∧ wr.ownsRow W.heap.size 3 1 (.slice (some ⟨W.heap.size, 0, none⟩) n n) n (ints (natI (rowM n (nextF L v a b)))) ∧ Below W.heap.size W wr) (fun yv _ => n - (intOf yv).toNat)
      case atStart => exact ⟨0, Nat.zero_le _, rfl, hown, hb⟩
      case round =>
        clear hown hb hcl
        obtain ⟨b, hbn, rfl, hown, hb⟩ := hrel
        obtain ⟨wb, rfl⟩ : ∃ wb : World, wb = wr := ⟨_, rfl⟩
        by_cases hbl : b < n
        · have b1 : (b : Int) < (n : Int) := by omega
          have b0 : (0 : Int) ≤ (b : Int) := by omega
          have b9 : (b : Int) ≤ 64 := by omega
          have HBL := hide hbl
          obtain ⟨ad2, rfl, hcn⟩ := (HR2.out.below hb).int (k := a) (by rw [HL2.out]; exact HAN.out)
          rw [natI_at, rowM_at v HAN.out] at hcn
          obtain ⟨e1, e2⟩ := HNH.out a b
          have hle := HNL.out a b
          have hva := HVL.out a
          have hgo := goes_le L a b
          obtain ⟨hcx, hfx, _, _⟩ := own_nat hown hbl 0
          rw [rowM_at _ hbl, e1] at hcx
          have hns := HNS.out a b
          rw [e2] at hns
          have eb := shr9 la b HBa.out
          rw [HGa.out b] at eb
          have hpb : v a * goesN L a b ≤ 43046721 * 1 := Nat.mul_le_mul hva hgo
          have hab : a * 43046721 ≤ 9 * 43046721 := Nat.mul_le_mul (by omega) (Nat.le_refl _)
          have em : IntKind.i64.wrap (((v a : Nat) : Int) * ((goesN L a b : Nat) : Int)) = ((v a * goesN L a b : Nat) : Int) := (IntWalk.i64_in _ (by rw [← Int.natCast_mul]; omega)).trans (Int.natCast_mul _ _).symm
          generalize goesN L a b = gb at *
          generalize sm (fun c => v c * goesN L c b) a = old at *
          generalize v a * gb = pr at *
          generalize v a = va at *
          have es : IntKind.i64.wrap ((old : Int) + (pr : Int)) = ((old + pr : Nat) : Int) := (IntWalk.i64_in _ (by omega)).trans (by omega)
          obtain ⟨nw, hnw⟩ : ∃ nw, old + pr = nw := ⟨_, rfl⟩
          rw [hnw] at es hns
          have HNX := hide hns
          have HOW := hide hown
          have HB4 := hide hb
          clear e1 e2 hle hva hgo hpb hab hnw hns hown hb
          go_wp2_with fail
          refine wp_region_still_tail 15 (by kernel_rfl) (by kernel_rfl) ?_
          simp only [List.take_succ_cons, List.take_zero, List.drop_succ_cons, List.drop_zero]
          repeat still_step
          try refine wpStill_nil ?_
          have hcxd : wb.drew.cell? ⟨W.heap.size, b, none⟩ = some (.int .i64 (old : Int)) := hcx
          have hfxd : wb.drew.frozen? ⟨W.heap.size, b, none⟩ = false := hfx
          have hod := HOW.out.drew
          have hbd := HB4.out.drew
          change wpList _ _ _ _ _ wb.drew
          clear HOW HB4 hcx hfx hcn
          generalize wb.drew = wd at *
          obtain ⟨_, _, hox, hgr⟩ := own_nat hod HBL.out nw
          rw [HNX.out] at hox
          have X1 := hide hox
          have X4 := hide (hbd.grown hgr hbd.size (fun z h => by injection h with h; omega))
          clear hox hgr hod hbd
          go_wp2_with fail
          exact ⟨⟨b + 1, HBL.out, by go_num, X1.out, X4.out⟩, by simp [intOf]; omega⟩
        · obtain rfl : b = n := by omega
          rw [HNR.out a] at hown
          have HOW := hide hown
          have HB4 := hide hb
          clear hown hb
          go_wp2_with fail
          exact ⟨⟨a + 1, HAN.out, by go_num, HOW.out, HB4.out⟩, by simp [intOf]; omega⟩
    · obtain rfl : a = n := by omega
      rw [HNE.out] at hown
      have HOW := hide hown
      clear hown
      go_wp2_with fail
      go_ret
      exact ⟨_, rfl, HOW.out, hb⟩
theorem walkCV_less {bc br i k m : Int} {s : List UInt8} (h : m < 0 ∨ 8 < m) : walkCV bc br s i k m = -1 := by
  unfold walkCV
  split
  · exact if_neg (fun h' => by omega)
  · rfl
theorem cells_twoJ (x y : Int) (n : Nat) : cellsTo [x, y] n 2 = decide ((0 ≤ x ∧ x < (n : Int)) ∧ (0 ≤ y ∧ y < (n : Int))) := by simp [cellsTo]
theorem walk2_no {bc br : Int} {s : ByteArray} {x y : Int} {w : World} {g : Nat} (h : smallK bc br s.toList = none) (hr : Row w (some ⟨g, 0, none⟩) #[.int .i64 x, .int .i64 y].toList) :
    Calls Try.prog 19 #[.int .i64 bc, .int .i64 br, .string s, .slice (some ⟨g, 0, none⟩) 2 2] w (Plain (.tuple #[.slice none 0 0, .bool false]) w) := walkOf_no bc br s _ 2 [x, y] w h hr (by simp)
theorem walk2_yes {bc br : Int} {s : ByteArray} {x y : Int} {w : World} {g n : Nat} {ss : List (Int × Int)} {far : Bool} (hk : kindL s.toList = some (ss, far)) (hS : Small bc br) (hn : (setsP bc br far ss).length = n) (hr : Row w (some ⟨g, 0, none⟩) #[.int .i64 x, .int .i64 y].toList) :
    Calls Try.prog 19 #[.int .i64 bc, .int .i64 br, .string s, .slice (some ⟨g, 0, none⟩) 2 2] w (WalkIs (setsP bc br far ss) (decide ((0 ≤ x ∧ x < (n : Int)) ∧ (0 ≤ y ∧ y < (n : Int)))) w) := by
  have := walkOf_yes bc br s _ 2 n [x, y] w hk hS hn hr (by simp)
  rwa [show [x, y].length = 2 from rfl, cells_twoJ] at this
set_option maxHeartbeats 4000000 in
set_option maxRecDepth 100000 in
theorem implWalkCount_c (bc br : Int) (s : ByteArray) (i k moves : Int) (W : World) : Calls Try.prog 8 #[.int .i64 bc, .int .i64 br, .string s, .int .i64 i, .int .i64 k, .int .i64 moves] W (Plain (.int .i64 (walkCV bc br s.toList i k moves)) W) := by
  have r0 := row_new W #[.int .i64 i, .int .i64 k] 3 (n := W.heap.size) rfl
  have hb1 := (Below.refl W.heap.size W).alloc (Nat.le_refl _) (.cells #[.int .i64 i, .int .i64 k] 3)
  cases hk : smallK bc br s.toList with
  | none =>
    have HC := hide (walk2_no hk r0)
    have hv : walkCV bc br s.toList i k moves = -1 := by unfold walkCV; rw [hk]
    rw [hv]
    clear hk r0 hv
    go_enter Try.func8, Try.ntmps8
    go_wp2_with fail
    refine HC.out.mono ?_
    rintro e w1 ⟨rfl, b1⟩
    have hb2 := below_then hb1 hb1.size b1
    clear b1 hb1
    go_wp2_with fail
    go_ret
    exact ⟨rfl, hb2⟩
  | some p =>
    obtain ⟨ss, far⟩ := p
    obtain ⟨hS, hkk⟩ := smallK_some hk
    obtain ⟨a, b, n, hW⟩ := walk_of hS hkk
    have hsz := hW.size
    have hn9 := hW.nine
    have hn1 := hW.one
    have hlen := hW.len
    have h9s := hW.sets
    have HC := hide (walk2_yes hkk hS hlen r0)
    by_cases hc : (0 ≤ i ∧ i < (n : Int)) ∧ (0 ≤ k ∧ k < (n : Int))
    · rw [decide_eq_true hc] at HC
      by_cases hm0 : moves < 0
      · rw [walkCV_less (.inl hm0)]
        clear hk hS hkk hW hlen h9s hc hsz r0
        go_enter Try.func8, Try.ntmps8
        go_wp2_with fail
        refine HC.out.mono ?_
        rintro e w1 ⟨A1, c1, rfl, o1, b1⟩
        have hb2 := below_then hb1 hb1.size b1
        clear b1 hb1 o1
        go_wp2_with fail
        go_ret
        exact ⟨rfl, hb2⟩
      · by_cases hm8 : 8 < moves
        · rw [walkCV_less (.inr hm8)]
          clear hk hS hkk hW hlen h9s hc hsz r0
          go_enter Try.func8, Try.ntmps8
          go_wp2_with fail
          refine HC.out.mono ?_
          rintro e w1 ⟨A1, c1, rfl, o1, b1⟩
          have hb2 := below_then hb1 hb1.size b1
          clear b1 hb1 o1
          go_wp2_with fail
          go_ret
          exact ⟨rfl, hb2⟩
        · obtain ⟨⟨hc1, hc2⟩, ⟨hc3, hc4⟩⟩ := hc
          obtain ⟨i, rfl⟩ := Int.eq_ofNat_of_zero_le hc1
          obtain ⟨k, rfl⟩ := Int.eq_ofNat_of_zero_le hc3
          obtain ⟨M, rfl⟩ := Int.eq_ofNat_of_zero_le (show 0 ≤ moves by omega)
          have hM8 : M ≤ 8 := by omega
          have hv : walkCV bc br s.toList (i : Int) (k : Int) (M : Int) = (walkN (setsP bc br far ss) i M k : Int) := by
            unfold walkCV
            rw [hk]
            simp only
            rw [hsz, if_pos (by omega)]
            simp only [Int.toNat_natCast]
          rw [hv]
          have hin : i < n := by omega
          have hkn : k < n := by omega
          clear hk hS hkk hW hv hsz hc1 hc2 hc3 hc4 r0
          generalize setsP bc br far ss = L at *
          have HON := hide (fun A1 A2 c1 c2 m w5 (hm : m ≤ 8) h1 h2 => onward_c A1 A2 c1 c2 n L (walkN L i m) w5 hlen hn1 h9s (fun c => Nat.le_trans (walk_le L i h9s.len m c) (pow9_le hm)) h1 h2)
          have HWS := hide (fun m => show (rowM n fun b => sm (fun c => walkN L i m c * goesN L c b) n) = rowM n (walkN L i (m + 1)) by rw [← hlen]; rfl)
          have HW0 : Hid ((List.replicate n 0).set i 1 = rowM n (walkN L i 0)) := by
            have hz : List.replicate n 0 = rowM n (fun _ => 0) := by
              refine List.ext_getElem (by simp [rowM]) fun b h1 h2 => ?_
              simp [rowM]
            show _ = _
            rw [hz]
            have h1 : walkN L i 0 i = 1 := if_pos rfl
            have := rowM_set (n := n) (k := i) (f := fun _ => 0) (g := walkN L i 0) (fun b hb => by
              by_cases e : b = i
              · subst e; rw [if_pos rfl]
              · rw [if_neg e]; exact if_neg e)
            rwa [h1] at this
          obtain ⟨i0, hi0, hz0, hz1, hz2⟩ := made_infoW (P := Try.prog) (e := 3) (z := .int .i64 0) (size := 1) (bytes := 8) (by kernel_rfl)
          have HLN := hide hlen
          have i1 : (0 : Int) ≤ (i : Int) := by omega
          have i2 : (i : Int) < (n : Int) := by omega
          have HIN := hide hin
          have HKN := hide hkn
          clear h9s
          go_enter Try.func8, Try.ntmps8
          go_wp2_with fail
          refine HC.out.mono ?_
          rintro e w1 ⟨A1, c1, rfl, o1, b1⟩
          rw [hlen] at o1 ⊢
          have hb2 := below_then hb1 hb1.size b1
          have o1 := own_mono o1 hb1.size
          have hz2' := hb2.size
          clear b1 hb1 hlen
          go_wp2_with ((at_make; refine wpList_make_full _ rfl (.tmp 37) (.tmp 37) 27 rfl w1.heap.size 3 i0 (.int .i64 0) 1 Try.underlying27 hi0 hz0 hz1 .i64 .i64 n n n rfl rfl rfl rfl (by rw [hz2]; omega) (by simp [maxLen]; omega) (Nat.le_refl _) ?_; intro w4 own4 hg4; have own4 := made_intsW rfl own4; rw [ints_zeros] at own4; have o4 := o1.kept hg4 (Classical.em _); have hb4 := hb2.grown hg4 hb2.size (fun k h => by cases h); obtain ⟨q1, q2, q3, q4⟩ := own_nat own4 HIN.out 1; rw [HW0.out] at q3; have o5 := hide (o4.kept q4 (.inr (fun e => by have := (o1.lt _ e).2; omega))); have hb5 := hide (hb4.grown q4 hb4.size (fun z h => by injection h with h; omega)); have Q3 := hide (own_mono q3 hz2'); clear hg4 own4 o4 hb4 q3 q4))
          clear o1 hb2
          go_loopw [15, 43] (fun av mv wr => ∃ (m : Nat) (g c : Nat), m ≤ M ∧ mv = .int .i64 (m : Int) ∧ av = .slice (some ⟨g, 0, none⟩) n c ∧ wr.ownsRow W.heap.size 3 1 (.slice (some ⟨g, 0, none⟩) n c) n (ints (natI (rowM n (walkN L i m)))) ∧ wr.ownsRow W.heap.size 3 1 (.slice A1 n c1) n (ints (natI L)) ∧ Below W.heap.size W wr) (fun _ mv _ => M - (intOf mv).toNat)
          case atStart => exact ⟨0, _, n, Nat.zero_le _, rfl, rfl, Q3.out, o5.out, hb5.out⟩
          case round =>
            clear Q3 o5 hb5 q1 q2
            obtain ⟨m, g, c, hm, rfl, rfl, hown, hnr, hb⟩ := hrel
            obtain ⟨wo, rfl⟩ : ∃ wo : World, wo = wr := ⟨_, rfl⟩
            by_cases hlt : m < M
            · have HO := hide (HON.out A1 (some ⟨g, 0, none⟩) c1 c m wo (by omega) (own_reads hnr) (own_reads hown))
              rw [HWS.out m] at HO
              have HNR := hide hnr
              have HB := hide hb
              clear hown hnr hb
              go_wp2_with fail
              refine HO.out.mono ?_
              rintro e w6 ⟨v6, rfl, o6, b6⟩
              obtain ⟨g6, c6, rfl, _, _, _, _, _⟩ := own_one o6 (by omega)
              have X1 := hide (own_mono o6 HB.out.size)
              have X2 := hide (own_below HNR.out b6)
              have X3 := hide (below_then HB.out HB.out.size b6)
              clear o6 b6
              go_wp2_with fail
              exact ⟨⟨m + 1, g6, c6, hlt, by go_num, rfl, X1.out, X2.out, X3.out⟩, by simp [intOf]; omega⟩
            · obtain rfl : m = M := by omega
              have hck := row_nat (own_reads hown) (rowM_len n _) HKN.out
              rw [rowM_at _ HKN.out] at hck
              have HB := hide hb
              have k0 : (0 : Int) ≤ (k : Int) := by omega
              have k1 : (k : Int) < (n : Int) := by omega
              clear hown hnr hb
              go_wp2_with fail
              go_ret
              exact ⟨rfl, HB.out⟩
    · rw [decide_eq_false hc] at HC
      have hv : walkCV bc br s.toList i k moves = -1 := by
        unfold walkCV
        rw [hk]
        simp only
        rw [hsz]
        exact if_neg (fun h => hc ⟨h.1, h.2.1⟩)
      rw [hv]
      clear hk hS hkk hW hlen h9s hc hsz r0 hv
      go_enter Try.func8, Try.ntmps8
      go_wp2_with fail
      refine HC.out.mono ?_
      rintro e w1 ⟨A1, c1, rfl, o1, b1⟩
      have hb2 := below_then hb1 hb1.size b1
      clear b1 hb1 o1
      go_wp2_with fail
      go_ret
      exact ⟨rfl, hb2⟩
end Go.Proofs.Ytoapmmmmdfmaeaa
