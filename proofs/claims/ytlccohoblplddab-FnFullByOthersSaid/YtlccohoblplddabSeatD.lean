
/-
  The other seats, by the program and by the model.
-/
import Derived.Test.YtlccohoblplddabSeatA
import Derived.Test.YtlccohoblplddabSpecC
import Derived.Test.YtlccohoblplddabOwnWords
import Derived.OwnWalk
namespace Go.Proofs.Ytlccohoblplddab
open Go.RowKit
set_option linter.unusedVariables false

theorem made_of {P : Program} {e : TypeId} {z : Value} {size bytes : Nat} (h : (P.info? e).map (fun i => (i.zero, i.size, i.bytes)) = some (some z, size, bytes)) : ∃ i, P.info? e = some i ∧ i.zero = some z ∧ i.size = size ∧ i.bytes = bytes := by
  cases hi : P.info? e with
  | none => simp [hi] at h
  | some i =>
    simp only [hi, Option.map_some, Option.some.injEq, Prod.mk.injEq] at h
    exact ⟨i, rfl, h.1, h.2.1, h.2.2⟩
theorem made_own {w : World} {base : Nat} {e : TypeId} {v : Value} {n : Nat} {z : Value} (hz : z.cells = #[z]) (h : w.ownsRow base e 1 v n (madeCells z.cells (n * 1)).toList) : w.ownsRow base e 1 v n (List.replicate n z) := by
  rwa [hz, Nat.mul_one, toList_madeCells_one] at h
theorem ints_set2 (l : List Int) (i : Nat) (u : Int) : (ints l).set i (.int .i64 u) = ints (l.set i u) := by simp [ints, List.map_set]
theorem andNot_full {n : Nat} (h1 : 1 ≤ n) (h5 : n ≤ 5) {x : Int} (x0 : 0 ≤ x) (x1 : x ≤ fullP n) : bits .andNot .i64 (fullP n) x = fullP n - x := by
  obtain ⟨k, rfl⟩ := Int.eq_ofNat_of_zero_le x0
  have hb := (full_bd h1 h5).2
  have := (by decide +kernel : ∀ n : Fin 6, ∀ k : Fin 32, 1 ≤ n.val → (k.val : Int) ≤ fullP n.val → bits .andNot .i64 (fullP n.val) (k.val : Int) = fullP n.val - (k.val : Int)) ⟨n, by omega⟩ ⟨k, by omega⟩ h1 x1
  exact this
def othersP (l : List Int) : List Int := l.map fun x => fullP l.length - x
/-- The first k are reckoned. -/
def Upto (Z l : List Int) (F : Int) (k : Nat) : Prop := Z.length = l.length ∧ ∀ i, i < k → Z[i]?.getD 0 = F - l[i]?.getD 0
theorem Upto.succ {Z l : List Int} {F : Int} {k : Nat} (h : Upto Z l F k) (hk : k < l.length) : Upto (Z.set k (F - l[k]?.getD 0)) l F (k + 1) :=
  ⟨by rw [List.length_set]; exact h.1, fun i hi => by
    by_cases e : i = k
    · subst e; rw [List.getElem?_set_self (by rw [h.1]; exact hk)]; rfl
    · rw [List.getElem?_set_ne (by omega)]; exact h.2 i (by omega)⟩
theorem Upto.all {Z l : List Int} (h : Upto Z l (fullP l.length) l.length) : Z = othersP l := by
  apply List.ext_getElem
  · rw [h.1]; simp [othersP]
  · intro i h1 h2
    have hl : i < l.length := by rw [← h.1]; exact h1
    have := h.2 i hl
    rw [List.getElem?_eq_getElem h1, List.getElem?_eq_getElem hl] at this
    simpa [othersP] using this
theorem seat_at {l : List Int} (h : Seats l) {k : Nat} (hk : k < l.length) : 0 ≤ l[k]?.getD 0 ∧ l[k]?.getD 0 ≤ fullP l.length := h.2 k hk

set_option maxHeartbeats 400000 in
theorem otherSeats_c (A : Option Addr) (c : Nat) (l : List Int) (w : World) (hr : Row w A (ints l)) (hs : Seats l) :
    Calls Try.prog 26 #[.slice A l.length c] w (Owns 3 1 l.length (ints (othersP l)) w) := by
  obtain ⟨h1, h5⟩ := hs.1
  have HF := hide (fun (w5 : World) => fullSeats_c l.length h1 h5 w5)
  have HA := hide (fun (x : Int) (x0 : 0 ≤ x) (x1 : x ≤ fullP l.length) => andNot_full h1 h5 x0 x1)
  have HS := hide (fun (k : Nat) (hk : k < l.length) => seat_at hs hk)
  have HU := hide (fun (Z : List Int) (h : Upto Z l (fullP l.length) l.length) => h.all)
  obtain ⟨f1, f2⟩ := full_bd h1 h5
  clear hs
  generalize othersP l = res at *
  generalize fullP l.length = F at *
  obtain ⟨i0, hi0, hz0, hz1, hz2⟩ := made_of (P := Try.prog) (e := 3) (z := .int .i64 0) (size := 1) (bytes := 8) (by kernel_rfl)
  go_enter Try.func26, Try.ntmps26
  go_wp2_with ((at_make; refine wpList_make_full _ rfl (.tmp 7) (.tmp 7) 22 rfl w.heap.size 3 i0 (.int .i64 0) 1 Try.underlying22 hi0 hz0 hz1 .i64 .i64 l.length l.length l.length rfl rfl rfl rfl (by rw [hz2]; omega) (by simp [maxLen]; omega) (Nat.le_refl _) ?_; intro w3 own3 hg3; have own3 := made_own rfl own3; have b3 := (Below.refl w.heap.size w).grown hg3 (Nat.le_refl _) (fun k h => by cases h); clear hg3))
  obtain ⟨g, hg⟩ : ∃ g, w.heap.size = g := ⟨_, rfl⟩
  rw [hg] at own3 b3 ⊢
  go_loopw [11] (fun i wr => ∃ (k : Nat) (Z : List Int), k ≤ l.length ∧ i = .int .i64 (k : Int) ∧ Hid (Upto Z l F k) ∧ wr.ownsRow g 3 1 (.slice (some ⟨g, 0, none⟩) l.length l.length) l.length (ints Z) ∧ Below g w wr) (fun i _ => l.length - (intOf i).toNat)
  case atStart => exact ⟨0, List.replicate l.length 0, Nat.zero_le _, rfl, ⟨by simp, fun i hi => absurd hi (by omega)⟩, by simpa [ints] using own3, b3⟩
  case round =>
    obtain ⟨k, Z, hk, rfl, hu, hown, hb⟩ := hrel
    obtain ⟨wo, rfl⟩ : ∃ wo : World, wo = wr := ⟨_, rfl⟩
    have z := hb.size
    by_cases hlt : k < l.length
    · rw [← hg] at hb
      obtain ⟨ad, rfl, hca⟩ := (hr.below hb).int hlt
      rw [hg] at hb
      obtain ⟨x0, x1⟩ := HS.out k hlt
      have hu2 := hide (hu.out.succ hlt)
      obtain ⟨x, hx⟩ : ∃ x, l[k]?.getD 0 = x := ⟨_, rfl⟩
      rw [hx] at hca x0 x1 hu2
      clear hx
      have ha := HA.out x x0 x1
      have hf := hown.frozenAt k
      have hc := hown.cellAt k (by omega)
      rw [List.getElem?_eq_getElem (by simp [hu.out.1]; exact hlt)] at hc
      obtain ⟨ost, gst⟩ := hown.stored k (.int .i64 (F - x))
      rw [ints_set2] at ost
      have bst := hb.grown gst (by omega) (fun n e => by injection e with e; omega)
      have Ost := hide ost
      have Bst := hide bst
      clear ost gst bst
      have k0 : (0 : Int) ≤ (k : Int) := by omega
      have k1 : (k : Int) < (l.length : Int) := by omega
      go_wp2_with fail
      refine (HF.out _).mono ?_
      rintro e w1 ⟨rfl, rfl⟩
      go_wp2_with fail
      exact ⟨⟨k + 1, _, hlt, rfl, hu2.out, Ost.out, Bst.out⟩, by simp [intOf]; omega⟩
    · have hkl : Hid (k = l.length) := hide (by omega)
      go_wp2_with fail
      go_ret
      refine ⟨_, rfl, ?_, by rw [hg]; exact hb⟩
      rw [← HU.out Z (by have := hu.out; rwa [hkl.out] at this), hg]
      exact hown
theorem implOtherSeats_c (A : Option Addr) (c : Nat) (l : List Int) (w : World) (hr : Row w A (ints l)) (hm : l.length ≤ maxLen) :
    Calls Try.prog 15 #[.slice A l.length c] w (Owns 3 1 (if Seats l then othersP l else []).length (ints (if Seats l then othersP l else [])) w) := by
  have HV := hide (implValidSeats_c A c l w hr hm)
  by_cases hs : Seats l
  · rw [decide_eq_true hs] at HV
    rw [if_pos hs]
    have HO := hide (fun (w5 : World) (h5 : Row w5 A (ints l)) => otherSeats_c A c l w5 h5 hs)
    have hl := hide (show (othersP l).length = l.length by simp [othersP])
    clear hs hm
    generalize othersP l = res at *
    go_enter Try.func15, Try.ntmps15
    go_wp2_with fail
    refine HV.out.mono ?_
    rintro e w1 ⟨rfl, b1⟩
    go_wp2_with fail
    refine (HO.out _ (hr.below b1)).mono ?_
    rintro e w2 ⟨v, rfl, own, b2⟩
    go_wp2_with fail
    go_ret
    exact ⟨v, rfl, by rw [hl.out]; exact own_mono own b1.size, below_then b1 b1.size b2⟩
  · rw [decide_eq_false hs] at HV
    rw [if_neg hs]
    clear hs hm hr
    go_enter Try.func15, Try.ntmps15
    go_wp2_with fail
    refine HV.out.mono ?_
    rintro e w1 ⟨rfl, b1⟩
    go_wp2_with fail
    go_ret
    exact ⟨_, rfl, ⟨rfl, .inl ⟨rfl, rfl⟩⟩, b1⟩

theorem others_step (l : List Int) (F : Int) (k : Nat) (hk : k < l.length) : (l.take k).map (fun x => F - x) ++ [F - l[k]?.getD 0] = (l.take (k + 1)).map (fun x => F - x) := by
  rw [take_snoc l k hk, List.map_append]; rfl
set_option maxHeartbeats 1000000 in
set_option maxRecDepth 100000 in
theorem specOtherSeats_c (A : Option Addr) (c : Nat) (l : List Int) (w : World) (hr : Row w A (ints l)) (hm : l.length ≤ maxLen) :
    Calls Try.prog 17 #[.slice A l.length c] w (Owns 3 1 (if Seats l then othersP l else []).length (ints (if Seats l then othersP l else [])) w) := by
  have HV := hide (specValidSeats0_c A c l w hr hm)
  by_cases hs : Seats l
  · rw [decide_eq_true hs] at HV
    rw [if_pos hs]
    obtain ⟨h1, h5⟩ := hs.1
    have HP := hide (fun (w5 : World) => specPower_c l.length (by omega) w5)
    obtain ⟨f1, f2⟩ := full_bd h1 h5
    have HF := hide (show ((2 ^ l.length : Nat) : Int) - 1 = fullP l.length from rfl)
    have hp := pow_bd (n := l.length) (by omega)
    have HS := hide (fun (k : Nat) (hk : k < l.length) => seat_at hs hk)
    have HR := hide (show othersP l = (l.take l.length).map (fun x => fullP l.length - x) by rw [List.take_length]; rfl)
    have HL := hide (show (othersP l).length = l.length by simp [othersP])
    clear hs hm
    generalize othersP l = res at *
    generalize fullP l.length = F at *
    generalize (2 ^ l.length : Nat) = P at *
    have e1 : IntKind.i64.wrap ((P : Int) - 1) = F := (IntWalk.i64_in _ (by omega)).trans HF.out
    go_enter Try.func17, Try.ntmps17
    go_wp2_with fail
    refine HV.out.mono ?_
    rintro e w1 ⟨rfl, b1⟩
    have z1 := b1.size
    go_wp2_with fail
    go_loopw [3, 4] (fun v i wr => ∃ k : Nat, k ≤ l.length ∧ i = .int .i64 (k : Int) ∧ wr.ownsRow w.heap.size 3 1 v k (ints ((l.take k).map (fun x => F - x))) ∧ Below w.heap.size w wr) (fun _ i _ => l.length - (intOf i).toNat)
    case atStart => exact ⟨0, Nat.zero_le _, rfl, by simpa using World.ownsRow_made w1 #[] 0 z1 (by simp [maxLen]) rfl, b1.alloc z1 _⟩
    case round =>
      obtain ⟨k, hk, rfl, hown, hb⟩ := hrel
      obtain ⟨wo, rfl⟩ : ∃ wo : World, wo = wr := ⟨_, rfl⟩
      have z := hb.size
      obtain ⟨A0, c0, rfl, _⟩ := own_row hown
      by_cases hlt : k < l.length
      · obtain ⟨ad, rfl, hca⟩ := (hr.below hb).int hlt
        obtain ⟨x0, x1⟩ := HS.out k hlt
        have hst := hide (others_step l F k hlt)
        obtain ⟨x, hx⟩ : ∃ x, l[k]?.getD 0 = x := ⟨_, rfl⟩
        rw [hx] at hca x0 x1 hst
        clear hx
        have k0 : (0 : Int) ≤ (k : Int) := by omega
        have k1 : (k : Int) < (l.length : Int) := by omega
        have e2 : IntKind.i64.wrap (F - x) = F - x := IntWalk.i64_in _ (by omega)
        have hbd : Below w.heap.size w (wo.drew.alloc (.cells #[.int .i64 (F - x)] 3)) := hb.drew.alloc hb.drew.size _
        have hod := hown.drew.alloc (.cells #[.int .i64 (F - x)] 3)
        have hadb : (ad.add k).block < w.heap.size := World.block_lt_of_cell? _ _ ((hb.cell (World.block_lt_of_cell? _ _ (by have := hr.int hlt; obtain ⟨_, ⟨rfl⟩, h⟩ := this; exact h))).symm.trans hca |> fun h => (by have := hr.int hlt; obtain ⟨_, ⟨rfl⟩, h⟩ := this; exact h))
        go_wp2_with fail
        go_region_held3 (fun w' => w'.cell? (ad.add k) = some (.int .i64 x)) (go_keep)
          (first
            | (go_at_call 29; refine (HP.out _).mono ?_; rintro e w7 ⟨rfl, rfl⟩)
            | (refine step_put (by rfl) (.tmp 15) (.tmp 25) (by rfl) Try.underlying22 elem_int' (v := .slice A0 k c0) (A := some ⟨wo.heap.size, 0, none⟩) (m := 1) (c := 1) (news := [.int .i64 (F - x)]) (B := w.heap.size) (by rfl) hod (by rfl) (by rfl) (row_new wo.drew _ _ rfl) (by simp [Value.oneCell']) (by omega) (by omega) hbd.size ?_
               intro v3 w3 hown3 hg3 ho3
               have hb3' := below_grown hbd hbd.size hod (Nat.le_refl _) hg3
               have hk3 := (hb3'.cell hadb).trans ((hb.cell hadb).symm.trans hca)))
        go_wp2_with fail
        refine ⟨⟨k + 1, hlt, rfl, ?_, hb3'⟩, by simp [intOf]; omega⟩
        rw [← hst.out]
        simpa [ints] using hown3
      · have hkl : Hid (k = l.length) := hide (by omega)
        go_wp2_with fail
        go_ret
        refine ⟨_, rfl, ?_, hb⟩
        rw [HL.out, HR.out, ← hkl.out]
        rw [hkl.out] at hown ⊢
        exact hown
  · rw [decide_eq_false hs] at HV
    rw [if_neg hs]
    clear hs hm hr
    go_enter Try.func17, Try.ntmps17
    go_wp2_with fail
    refine HV.out.mono ?_
    rintro e w1 ⟨rfl, b1⟩
    go_wp2_with fail
    go_ret
    exact ⟨_, rfl, ⟨rfl, .inl ⟨rfl, rfl⟩⟩, b1⟩
end Go.Proofs.Ytlccohoblplddab
