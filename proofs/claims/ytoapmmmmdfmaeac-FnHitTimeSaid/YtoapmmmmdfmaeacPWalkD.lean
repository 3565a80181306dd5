
/-
  Walks by chance: the program's stops.
-/
import Derived.Test.YtoapmmmmdfmaeacPWalkM
import Derived.Test.YtoapmmmmdfmaeacPGuardM
import Derived.Test.YtoapmmmmdfmaeacSpecM
import Derived.OwnWalk
import Derived.Deep.RegionLaw
namespace Go.Proofs.Ytoapmmmmdfmaeac
open Go.RowKit
set_option linter.unusedVariables false

theorem made_flat (z : Array Value) {sz : Nat} (hz : z.size = sz) (hp : 0 < sz) (n : Nat) : (madeCells z (n * sz)).toList = flatN n (fun _ => z.toList) := by
  refine List.ext_getElem? fun m => ?_
  have hl := flatN_len (sz := sz) (f := fun _ => z.toList) (fun _ => by simp [hz]) n
  by_cases h : m < n * sz
  · obtain ⟨i, j, hj, rfl⟩ : ∃ i j, j < sz ∧ m = i * sz + j := ⟨m / sz, m % sz, Nat.mod_lt _ hp, by rw [Nat.mul_comm]; exact (Nat.div_add_mod m sz).symm⟩
    have hi : i < n := by
      rcases Nat.lt_or_ge i n with h' | h'
      · exact h'
      · have := Nat.mul_le_mul_right sz h'
        omega
    rw [flatN_at (sz := sz) (f := fun _ => z.toList) (fun _ => by simp [hz]) hi hj]
    have hm : (i * sz + j) % sz = j := by rw [Nat.mul_comm, Nat.mul_add_mod, Nat.mod_eq_of_lt hj]
    have hj' : j < z.size := by omega
    simp [madeCells, h, hz, hm, getElem!_pos z j hj']
  · rw [List.getElem?_eq_none (by simp [size_madeCells]; omega), List.getElem?_eq_none (by omega)]
theorem made_infoP {P : Program} {e : TypeId} {z : Value} {size bytes : Nat} (h : (P.info? e).map (fun i => (i.zero, i.size, i.bytes)) = some (some z, size, bytes)) : ∃ i, P.info? e = some i ∧ i.zero = some z ∧ i.size = size ∧ i.bytes = bytes := by
  cases hi : P.info? e with
  | none => simp [hi] at h
  | some i =>
    simp only [hi, Option.map_some, Option.some.injEq, Prod.mk.injEq] at h
    exact ⟨i, rfl, h.1, h.2.1, h.2.2⟩
theorem elem_frac : Elem Try.prog 26 2 16 := Elem.of (z := .agg #[.int .i64 0, .int .i64 0]) (by kernel_rfl) rfl (by omega)
theorem startM_at {L : List Nat} {i : Nat} (hi : i < L.length) : hAt (startM L) i 0 = (pcN 9 (L[i]?.getD 0), 1) ∧ ∀ t, t < L.length → hAt (startM L) i (t + 1) = (bitN (L[i]?.getD 0) t, 1) := by
  unfold hAt startM
  rw [List.getElem?_map, List.getElem?_range hi]
  refine ⟨rfl, fun t ht => ?_⟩
  simp [startR, ht]
/-- One fraction appended to the row of one stop. -/
theorem StopsAt.app {w w5 : World} {base g c n : Nat} {vs : Nat → Value} {ls : Nat → Nat} {M : Nat → Nat → Nat × Nat} (h : StopsAt w base g c n vs ls M) {i : Nat} (hi : i < n) {v5 : Value} {p : Nat × Nat}
    (o5 : w5.ownsRow base 26 2 v5 (ls i + 1) (frs (ls i) (fun t => M i (t + 1)) ++ frC p)) (g5 : w.grownBy w5 (vs i).ownBlock) (h5 : v5.ownBlock = (vs i).ownBlock ∨ v5.ownBlock = some w.heap.size) :
    StopsAt (w5.setCell ⟨g, i * 3 + 2, none⟩ v5) base g c n (updV vs i v5) (fun a => if a = i then ls i + 1 else ls a) (fun a b => if a = i ∧ b = ls i + 1 then p else M a b) := by
  have r5 := own_tyk2 h.row (h.own i hi) (by decide) g5
  obtain ⟨r6, g6⟩ := r5.stored (i * 3 + 2) v5
  rw [sts_putV _ vs hi v5] at r6
  refine ⟨?_, fun a ha => ?_, fun a b ha hb hab => ?_⟩
  · rw [← sts_congr (f := fun a => M a 0) (us := updV vs i v5) (g := fun a => if a = i ∧ 0 = ls i + 1 then p else M a 0) (fun a _ => by simp) (fun _ _ => rfl)]
    exact r6
  · by_cases e : a = i
    · subst e
      rw [show updV vs a v5 a = v5 by simp [updV], if_pos rfl, frs_snoc]
      simp only [and_self, if_true]
      rw [← frs_congr (f := fun t => M a (t + 1)) (fun s hs => by simp [show s ≠ ls a by omega])]
      exact own_tyk2 o5 r5 (by decide) g6
    · rw [show updV vs i v5 a = vs a by simp [updV, e], if_neg e]
      rw [← frs_congr (f := fun t => M a (t + 1)) (fun s _ => by simp [e])]
      exact own_tyk2 ((h.own a ha).kept g5 (h.apart a i ha hi e)) r5 (by decide) g6
  · unfold updV
    by_cases ea : a = i
    · subst ea
      rw [if_pos rfl, if_neg (fun h' => hab h'.symm)]
      rcases h5 with h5 | h5
      · rw [h5]; exact h.apart a b ha hb hab
      · rw [h5]
        refine .inr fun e' => ?_
        have := ((h.own b hb).lt _ e'.symm).2
        omega
    · rw [if_neg ea]
      by_cases eb : b = i
      · subst eb
        rw [if_pos rfl]
        rcases h5 with h5 | h5
        · rw [h5]; exact h.apart a b ha hb hab
        · rw [h5]
          refine .inr fun e' => ?_
          have := ((h.own a ha).lt _ e').2
          omega
      · rw [if_neg eb]
        exact h.apart a b ha hb hab
theorem StopsAt.lens {w : World} {base g c n : Nat} {vs : Nat → Value} {ls ms : Nat → Nat} {M : Nat → Nat → Nat × Nat} (h : StopsAt w base g c n vs ls M) (he : ∀ i, i < n → ls i = ms i) : StopsAt w base g c n vs ms M :=
  ⟨h.row, fun i hi => by rw [← he i hi]; exact h.own i hi, h.apart⟩
/-- What is there ahead of cell k, and of its fraction t. -/
def laidK (S : Nat → Nat → Nat × Nat) (k i j : Nat) : Nat × Nat := if i < k then S i j else (0, 0)
def laidT (S : Nat → Nat → Nat × Nat) (k t i j : Nat) : Nat × Nat := if i < k then S i j else if i = k ∧ j ≤ t then S i j else (0, 0)
def lenK (n k i : Nat) : Nat := if i < k then n else 0
def lenT (n k t i : Nat) : Nat := if i < k then n else if i = k then t else 0
theorem laid_head (S : Nat → Nat → Nat × Nat) (k : Nat) : (fun a b => if a = k ∧ b = 0 then S k 0 else laidK S k a b) = laidT S k 0 := by
  funext a b
  unfold laidK laidT
  by_cases e : a = k
  · subst e
    by_cases e2 : b = 0
    · subst e2; simp
    · simp [e2]
  · simp [e]
theorem len_head (n k : Nat) : lenK n k = lenT n k 0 := by
  funext a
  unfold lenK lenT
  by_cases e : a < k
  · simp [e]
  · simp [e]
theorem laid_more (S : Nat → Nat → Nat × Nat) (k t : Nat) : (fun a b => if a = k ∧ b = t + 1 then S k (t + 1) else laidT S k t a b) = laidT S k (t + 1) := by
  funext a b
  unfold laidT
  by_cases e : a = k
  · subst e
    by_cases e2 : b = t + 1
    · subst e2; simp
    · by_cases e3 : b ≤ t
      · simp [e2, e3, show b ≤ t + 1 by omega]
      · simp [e2, e3, show ¬ b ≤ t + 1 by omega]
  · simp [e]
theorem len_more (n k t : Nat) : (fun a => if a = k then lenT n k t k + 1 else lenT n k t a) = lenT n k (t + 1) := by
  funext a
  unfold lenT
  by_cases e : a = k
  · subst e; simp
  · simp [e]
theorem len_here (n k t : Nat) : lenT n k t k = t := by simp [lenT]
theorem len_next (n k : Nat) : lenT n k n = lenK n (k + 1) := by
  funext a
  unfold lenK lenT
  by_cases e : a < k
  · simp [e, show a < k + 1 by omega]
  · by_cases e2 : a = k
    · subst e2; simp
    · simp [e, e2, show ¬ a < k + 1 by omega]
theorem laid_next {w : World} {base g c n k : Nat} {vs : Nat → Value} {S : Nat → Nat → Nat × Nat} (h : StopsAt w base g c n vs (lenT n k n) (laidT S k n)) : StopsAt w base g c n vs (lenK n (k + 1)) (laidK S (k + 1)) := by
  have := h.congr (M' := laidK S (k + 1)) (fun i j hi hj => by
    unfold lenT at hj
    unfold laidT laidK
    by_cases e : i < k
    · simp [e, show i < k + 1 by omega]
    · by_cases e2 : i = k
      · subst e2
        rw [if_neg e, if_pos rfl] at hj
        simp [hj]
      · simp [e, e2, show ¬ i < k + 1 by omega])
  rwa [len_next] at this
set_option maxHeartbeats 4000000 in
set_option maxRecDepth 100000 in
theorem stops_c (HZ : ∀ t : Nat, t < 512 → ∀ w, Calls Try.prog 58 #[.int .i64 (t : Int)] w fun e w' => e = .returned (.int .i64 ((pcN 9 t : Nat) : Int)) ∧ w = w')
    (A : Option Addr) (c n : Nat) (L : List Nat) (W : World) (hlen : L.length = n) (hn : 1 ≤ n) (h9 : Sets9 L) (hr : Row W A (ints (natI L))) :
    Calls Try.prog 36 #[.slice A n c] W fun e w' => ∃ g vs, e = .returned (.slice (some ⟨g, 0, none⟩) n n) ∧ StopsAt w' W.heap.size g n n vs (fun _ => n) (hAt (startM L)) ∧ Below W.heap.size W w' := by
  have HR := hide hr
  have hn9 : n ≤ 9 := by have := h9.len; omega
  have HBD := hide h9.bd
  have HS := hide (fun i (hi : i < n) => startM_at (L := L) (i := i) (by omega))
  have HNL := hide (natI_len L)
  obtain ⟨S, hS⟩ : ∃ S, S = hAt (startM L) := ⟨_, rfl⟩
  rw [← hS] at HS ⊢
  rw [hlen] at HS HNL
  obtain ⟨i0, hi0, hz0, hz1, hz2⟩ := made_infoP (P := Try.prog) (e := 73) (z := .agg #[.int .i64 0, .int .i64 0, .slice none 0 0]) (size := 3) (bytes := 40) (by kernel_rfl)
  clear hr h9 hS
  go_enter Try.func36, Try.ntmps36
  go_wp2_with ((at_make; refine wpList_make_full _ rfl (.tmp 8) (.tmp 8) 69 rfl W.heap.size 73 i0 (.agg #[.int .i64 0, .int .i64 0, .slice none 0 0]) 3 Try.underlying69 hi0 hz0 hz1 .i64 .i64 n n n rfl rfl rfl rfl (by rw [hz2]; omega) (by simp [maxLen]; omega) (Nat.le_refl _) ?_; intro w3 own3 hg3; have b3 := (Below.refl W.heap.size W).grown hg3 (Nat.le_refl _) (fun k h => by cases h)))
  rw [show (Value.agg #[.int .i64 0, .int .i64 0, .slice none 0 0]).cells = #[.int .i64 0, .int .i64 0, .slice none 0 0] from rfl, made_flat _ (sz := 3) rfl (by omega)] at own3
  have st0 : StopsAt w3 W.heap.size W.heap.size n n (fun _ => .slice none 0 0) (lenK n 0) (laidK S 0) := by
    refine ⟨?_, fun i hi => ?_, fun i j _ _ _ => .inl rfl⟩
    · exact own3
    · exact World.ownsRow_nil _ _ _ _
  clear own3 hg3 hi0 hz0 hz1 hz2
  go_loopw [12] (fun i wr => ∃ (k : Nat) (vs : Nat → Value), k ≤ n ∧ i = .int .i64 (k : Int) ∧ StopsAt wr W.heap.size W.heap.size n n vs (lenK n k) (laidK S k) ∧ (∀ i, k ≤ i → vs i = .slice none 0 0) ∧ Below W.heap.size W wr) (fun i _ => n - (intOf i).toNat)
  case atStart => exact ⟨0, _, Nat.zero_le _, rfl, st0, fun _ _ => rfl, b3⟩
  case round =>
    clear st0 b3
    obtain ⟨k, vs, hk, rfl, st, hnil, hb⟩ := hrel
    obtain ⟨wo, rfl⟩ : ∃ wo : World, wo = wr := ⟨_, rfl⟩
    by_cases hlt : k < n
    · obtain ⟨ad, rfl, hck⟩ := (HR.out.below hb).int (k := k) (by rw [HNL.out]; exact hlt)
      rw [natI_at] at hck
      have hxb := HBD.out k
      have HZk := hide (fun w => HZ _ hxb w)
      obtain ⟨HS0, HS1⟩ := HS.out k hlt
      have HS0 := hide HS0
      have HS1 := hide HS1
      have HB1 := hide (fun t => shr9 (L[k]?.getD 0) t hxb)
      generalize L[k]?.getD 0 = x at *
      generalize pcN 9 x = q at *
      have k0 : (0 : Int) ≤ (k : Int) := by omega
      have k1 : (k : Int) < (n : Int) := by omega
      have ST := hide st
      have HNIL := hide hnil
      clear st hnil
      go_wp2_with fail
      refine (HZk.out _).mono ?_
      rintro e w4 ⟨rfl, rfl⟩
      go_wp2_with fail
      refine (pWhole_c _ _).mono ?_
      rintro e w4 ⟨rfl, b4⟩
      have st4 := ST.out.below b4
      obtain ⟨d0, d1, d2, df⟩ := sts_cell st4.row hlt
      have f0 := df (k * 3)
      have f1 := df (k * 3 + 1)
      have SP := st4.put hlt (q, 1)
      obtain ⟨st5, g5⟩ := SP
      rw [show (fun a b => if a = k ∧ b = 0 then (q, 1) else laidK S k a b) = laidT S k 0 by rw [← HS0.out]; exact laid_head S k, len_head] at st5
      have hb5 := (below_then hb hb.size b4).grown g5 (Nat.le_trans hb.size b4.size) (fun z e => by injection e with e; omega)
      have ST5 := hide st5
      have HB5 := hide hb5
      have HNI := hide (fun i (hi : k < i) => HNIL.out i (by omega))
      clear st4 st5 g5 hb5 ST HNIL hb b4 hck HZk
      go_wp2_with fail
      generalize (w4.setCell ⟨W.heap.size, k * 3, none⟩ (.int .i64 (q : Int))).setCell ⟨W.heap.size, k * 3 + 1, none⟩ (.int .i64 1) = w5 at *
      go_loopw [26] (fun j wr => ∃ (t : Nat) (vs : Nat → Value), t ≤ n ∧ j = .int .i64 (t : Int) ∧ StopsAt wr W.heap.size W.heap.size n n vs (lenT n k t) (laidT S k t) ∧ (∀ i, k < i → vs i = .slice none 0 0) ∧ Below W.heap.size W wr) (fun j _ => n - (intOf j).toNat)
      case atStart => exact ⟨0, vs, Nat.zero_le _, rfl, ST5.out, HNI.out, HB5.out⟩
      case round =>
        clear ST5 HNI HB5 d0 d1 d2 df f0 f1
        obtain ⟨t, us, ht, rfl, st, hnil, hb⟩ := hrel
        obtain ⟨wi, rfl⟩ : ∃ wi : World, wi = wr := ⟨_, rfl⟩
        by_cases hlt2 : t < n
        · have eb := HB1.out t
          have HS1t := hide (HS1.out t hlt2)
          generalize bitN x t = b at *
          have ho := st.own k hlt
          rw [len_here] at ho
          obtain ⟨Ai, ci, hvk, _⟩ := own_row ho
          obtain ⟨c0, c1, c2, cf⟩ := sts_cell st.row hlt
          rw [hvk] at c2 ho
          have f2 := cf (k * 3 + 2)
          have t0 : (0 : Int) ≤ (t : Int) := by omega
          have t1 : (t : Int) < (n : Int) := by omega
          have t9 : (t : Int) ≤ 64 := by omega
          have ST := hide st
          have HO := hide ho
          have HNI := hide hnil
          have HVK := hide hvk
          have HB := hide hb
          clear st ho hnil hvk hb c0 c1 cf
          go_wp2_with fail
          go_region_law (first
            | (refine step_put (by rfl) (.tmp 35) (.tmp 41) (by rfl) Try.underlying45 elem_frac (v := .slice Ai t ci) (A := some ⟨w6.heap.size, 0, none⟩) (m := 1) (c := 1) (xs := frs t fun s => laidT S k t k (s + 1)) (news := frC (b, 1)) (B := W.heap.size) (by rfl) (o6.out.alloc _) (by rfl) (by rfl) (row_new w6 _ _ rfl) (by simp [frC, Value.oneCell']) (by omega) (by omega) (by have := HB6.out.size; simp; omega) ?_
               intro v7 w7 own7 hg7 ho7
               obtain ⟨A7, c7, rfl, _⟩ := own_row own7
               have ST7 := hide ((ST6.out.below ((Below.refl _ _).alloc (Nat.le_refl _) (.cells #[.int .i64 (b : Int), .int .i64 1] 26))).app hlt (by rw [len_here]; exact own7) (by rw [HVK.out]; exact hg7) (by rw [HVK.out]; exact ho7))
               have q7 := sts_cell (own_tyk2 (ST6.out.below ((Below.refl _ _).alloc (Nat.le_refl _) (.cells #[.int .i64 (b : Int), .int .i64 1] 26))).row (ST6.out.below ((Below.refl _ _).alloc (Nat.le_refl _) (.cells #[.int .i64 (b : Int), .int .i64 1] 26)) |>.own k hlt) (by decide) (by rw [HVK.out]; exact hg7)) hlt
               obtain ⟨_, _, c7', f7⟩ := q7
               rw [HVK.out] at c7'
               have f7 := f7 (k * 3 + 2)
               have HB7 := hide ((below_grown (HB6.out.alloc HB6.out.size (.cells #[.int .i64 (b : Int), .int .i64 1] 26)) (by have := HB6.out.size; simp; omega) (o6.out.alloc _) (Nat.le_refl _) hg7).setCell (p := ⟨W.heap.size, k * 3 + 2, none⟩) (by simp only; omega) (.slice A7 (t + 1) c7))
               clear own7 hg7 ho7)
            | (go_simp; go_at_call 38; refine (pWhole_c _ _).mono ?_
               rintro e w6 ⟨rfl, b6⟩
               have ST6 := hide (ST.out.drew.below (w := wi.drew) b6)
               have o6 := hide (own_below (w := wi.drew) HO.out b6)
               have HB6 := hide (below_then (w := wi.drew) HB.out.drew HB.out.size b6)
               have c6 := (sts_cell ST6.out.row hlt).2.2.1
               rw [HVK.out] at c6
               have z6 := ST6.out.lt.2
               clear b6))
          all_goals
            have ST8 := ST7.out
            rw [len_more, show (fun a b_1 => if a = k ∧ b_1 = lenT n k t k + 1 then (b, 1) else laidT S k t a b_1) = laidT S k (t + 1) by rw [← HS1t.out, len_here]; exact laid_more S k t] at ST8
            have ST8 := hide ST8
            clear ST7 ST6 o6 HB6 c6 c7' f7 z6
            go_wp2_with fail
            exact ⟨⟨t + 1, _, hlt2, by go_num, ST8.out, fun i hi => by rw [show updV us k _ i = us i by simp [updV, show i ≠ k by omega]]; exact HNI.out i hi, HB7.out⟩, by simp [intOf]; omega⟩
        · obtain rfl : t = n := by omega
          have st9 := hide (laid_next st)
          have hni9 := hide (fun i (hi : k + 1 ≤ i) => hnil i (by omega))
          have hb9 := hide hb
          clear st hnil hb
          go_wp2_with fail
          exact ⟨⟨k + 1, us, hlt, by go_num, st9.out, hni9.out, hb9.out⟩, by simp [intOf]; omega⟩
    · obtain rfl : k = n := by omega
      have HE := hide (st.congr (M' := S) (fun i j hi _ => by simp [laidK, hi]))
      go_wp2_with fail
      go_ret
      exact ⟨_, vs, rfl, HE.out.lens (fun i hi => by simp [lenK, hi]), hb⟩
end Go.Proofs.Ytoapmmmmdfmaeac
