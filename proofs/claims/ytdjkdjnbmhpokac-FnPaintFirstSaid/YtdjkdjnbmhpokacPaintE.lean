
/-
  Colours: the model's PaintFirst.
-/
import Derived.Test.YtdjkdjnbmhpokacPaintC
namespace Go.Proofs.Ytdjkdjnbmhpokac
open Go.RowKit
set_option linter.unusedVariables false

def hueL (bc br : Int) (s : List UInt8) : List Nat := match smallK bc br s with
  | some (ss, far) => firstC (setsP bc br far ss) (setsP bc br far ss).length
  | none => []
def hueC (L : List Nat) (m : Nat) : Nat := leastC L (firstC L m) 9 0
theorem first_succ (L : List Nat) (m : Nat) : firstC L (m + 1) = firstC L m ++ [hueC L m] := rfl
theorem first_take (L : List Nat) : ∀ n m, m ≤ n → (firstC L n).take m = firstC L m
  | 0, m, h => by rw [show m = 0 by omega]; rfl
  | n + 1, m, h => by
    by_cases e : m = n + 1
    · subst e
      exact List.take_of_length_le (by rw [firstC_len]; omega)
    · rw [first_succ, List.take_append_of_le_length (by rw [firstC_len]; omega), first_take L n m (by omega)]
theorem first_at (L : List Nat) {n m : Nat} (h : m < n) : (firstC L n)[m]?.getD 0 = hueC L m := by
  have h1 := first_take L n (m + 1) h
  have h2 : ((firstC L n).take (m + 1))[m]?.getD 0 = (firstC L n)[m]?.getD 0 := by rw [List.getElem?_take_of_lt (by omega)]
  rw [← h2, h1, first_succ, List.getElem?_append_right (by rw [firstC_len]; omega), firstC_len, Nat.sub_self]
  rfl
/-- The colours below the least one do not fit. -/
theorem least_no (L head : List Nat) : ∀ f c0 c, c0 ≤ c → c < leastC L head f c0 → fitsP L head c = false
  | 0, c0, c, h1, h2 => absurd h2 (by show ¬ c < c0; omega)
  | f + 1, c0, c, h1, h2 => by
    unfold leastC at h2
    by_cases e : fitsP L head c0 = true
    · rw [if_pos e] at h2; omega
    · rw [if_neg e] at h2
      by_cases e2 : c = c0
      · subst e2; simpa using e
      · exact least_no L head f (c0 + 1) c (by omega) h2
/-- The first colours fit. -/
structure HueIs (L : List Nat) (n : Nat) : Prop where
  fit : ∀ m, m < n → fitsP L (firstC L m) (hueC L m) = true
  low : ∀ m, m < n → hueC L m ≤ 8
  none : ∀ m c, m < n → c < hueC L m → fitsP L (firstC L m) c = false
theorem hue_is {L : List Nat} {n : Nat} (hlen : L.length = n) (h : (chTab.any fun e => e.1 == L) = true) : HueIs L n := by
  obtain ⟨e, he, rfl, _⟩ := chOf_mem h
  have h := List.all_eq_true.1 first_all e he
  unfold firstOk at h
  simp only [Bool.and_eq_true] at h
  have h := h.1.1.1.1
  subst hlen
  have key : ∀ m, m < e.1.length → fitsP e.1 (firstC e.1 m) (hueC e.1 m) = true ∧ hueC e.1 m ≤ 8 := fun m hm => by
    have := List.all_eq_true.1 h m (List.mem_range.2 hm)
    rw [first_take _ _ _ (Nat.le_of_lt hm), first_at _ hm, Bool.and_eq_true, Nat.ble_eq] at this
    exact this
  exact ⟨fun m hm => (key m hm).1, fun m hm => (key m hm).2, fun m c hm hc => least_no _ _ 9 0 c (Nat.zero_le _) hc⟩
set_option maxHeartbeats 2000000 in
set_option maxRecDepth 100000 in
theorem specPaintFirst_c (bc br : Int) (s : ByteArray) (w : World) : Calls Try.prog 11 #[.int .i64 bc, .int .i64 br, .string s] w (Owns 3 1 (hueL bc br s.toList).length (ints (natI (hueL bc br s.toList))) w) := by
  have HV := hide (fun w5 => validSmall_c bc br s w5)
  unfold hueL
  cases hsm : smallK bc br s.toList with
  | none =>
    rw [hsm] at HV
    rw [show (none : Option (List (Int × Int) × Bool)).isSome = false from rfl] at HV
    clear hsm
    go_enter Try.func11, Try.ntmps11
    go_wp2_with fail
    refine (HV.out _).mono ?_
    rintro e w1 ⟨rfl, b1⟩
    go_wp2_with fail
    go_ret
    exact ⟨_, rfl, World.ownsRow_nil _ _ _ _, b1⟩
  | some p =>
    obtain ⟨ss, far⟩ := p
    rw [hsm] at HV
    rw [show (some (ss, far)).isSome = true from rfl] at HV
    simp only
    obtain ⟨hS, hkk⟩ := smallK_some hsm
    obtain ⟨n, hU⟩ := hue_of hS hkk
    have HSR := hide (fun w5 => reaches_c bc br s ss far w5 hkk hS)
    have hlen := hU.len
    have hn9 := hU.nine
    have hsz := hU.size
    have hI := hue_is hlen hU.tab
    have HFT := hide (fun (A H : Option Addr) (ca ch m c : Nat) (w5 : World) (hm : m < n) (h1 : Row w5 A (ints (natI (setsP bc br far ss)))) (h2 : Row w5 H (ints (natI (firstC (setsP bc br far ss) m)))) => by
      have := fits_c A H ca ch n (setsP bc br far ss) (firstC (setsP bc br far ss) m) c w5 hlen (by rw [firstC_len]; exact hm) hU.sets h1 h2
      rwa [firstC_len] at this)
    have e0 : IntKind.i64.wrap (bc * br) = (n : Int) := (IntWalk.i64_in _ (by omega)).trans hsz
    rw [firstC_len, hlen]
    clear hsm hS hkk hU hsz
    generalize setsP bc br far ss = L at *
    have H1 := hide hI.fit
    have H2 := hide hI.low
    have H3 := hide hI.none
    have HFS := hide (fun m => show natI (firstC L (m + 1)) = natI (firstC L m) ++ [((hueC L m : Nat) : Int)] by rw [first_succ, natI_snocP])
    have HFL := hide (fun m => show (natI (firstC L m)).length = m by rw [natI_len, firstC_len])
    have HF0 : Hid (natI (firstC L 0) = []) := rfl
    clear hI
    rw [hlen] at HSR
    clear hlen
    generalize firstC L = F at *
    generalize hueC L = C at *
    go_enter Try.func11, Try.ntmps11
    go_wp2_with fail
    refine (HV.out _).mono ?_
    rintro e w1 ⟨rfl, b1⟩
    go_wp2_with fail
    refine (HSR.out _).mono ?_
    rintro e w2 ⟨v2, rfl, o2, b2⟩
    obtain ⟨A2, c2, rfl, _⟩ := own_row o2
    have R2 := hide (own_reads o2)
    have b12 := below_then b1 b1.size b2
    have oe := World.ownsRow_made (base := w.heap.size) (e := 3) (size := 1) w2 #[] 0 b12.size (by simp [maxLen]) rfl
    have hal := (Below.refl w2.heap.size w2).alloc (Nat.le_refl _) (.cells #[] 3)
    have RA := hide (R2.out.below hal)
    have BA := hide (below_then b12 b12.size hal)
    have OE := hide oe
    clear o2 b1 b2 oe R2 b12 hal
    go_wp2_with fail
    go_loopw [8] (fun v wr => ∃ (m : Nat) (c : Nat) (H : Option Addr), m ≤ n ∧ v = .slice H m c ∧ wr.ownsRow w.heap.size 3 1 (.slice H m c) m (ints (natI (F m))) ∧ Row wr A2 (ints (natI L)) ∧ Below w.heap.size w wr) (fun v _ => match v with | .slice _ m _ => n - m | _ => 0)
    case atStart => exact ⟨0, 0, _, Nat.zero_le _, rfl, by rw [HF0.out]; exact OE.out, RA.out, BA.out⟩
    case round =>
      clear OE RA BA
      obtain ⟨m, ch, H, hm, rfl, hown, hra, hb⟩ := hrel
      obtain ⟨wo, rfl⟩ : ∃ wo : World, wo = wr := ⟨_, rfl⟩
      have hcm : m ≤ ch ∧ ch ≤ maxLen := by
        obtain ⟨A', c', e, h1, h2, _⟩ := own_row hown
        injection e with e1 e2 e3
        subst e3
        exact ⟨h1, h2⟩
      by_cases hlt : m < n
      · have HFm := hide (fun c => HFT.out A2 H c2 ch m c wo hlt hra (own_reads hown))
        have H1m := hide (H1.out m hlt)
        have H2m := H2.out m hlt
        have H3m := hide (fun c hc => H3.out m c hlt hc)
        have HFSm := hide (HFS.out m)
        have HFLm := hide (HFL.out m)
        have mn : (m : Int) < (n : Int) := by omega
        have OW := hide hown
        have RA := hide hra
        have HB := hide hb
        have HLT := hide hlt
        have HRH := hide (own_reads hown)
        clear hown hra hb
        generalize C m = lc at *
        go_wp2_with fail
        go_loopw [9] (fun cv wr => ∃ c : Nat, c ≤ lc ∧ cv = .int .i64 (c : Int) ∧ wo = wr) (fun cv _ => lc - (intOf cv).toNat)
        case atStart => exact ⟨0, Nat.zero_le _, rfl, rfl⟩
        case round =>
          obtain ⟨c, hc, rfl, rfl⟩ := hrel
          have HFc := hide (HFm.out c)
          by_cases hcl : c < lc
          · rw [H3m.out c hcl] at HFc
            go_wp2_with fail
            refine HFc.out.mono ?_
            rintro e w5 ⟨rfl, rfl⟩
            go_wp2_with fail
            exact ⟨⟨c + 1, hcl, by go_num, trivial⟩, by simp [intOf]; omega⟩
          · obtain rfl : c = lc := by omega
            rw [H1m.out] at HFc
            have oe := World.ownsRow_made (base := wo.heap.size) (e := 3) (size := 1) wo #[] 0 (Nat.le_refl _) (by simp [maxLen]) rfl
            have hbA := (Below.refl wo.heap.size wo).alloc (Nat.le_refl _) (.cells #[] 3)
            have hrH := HRH.out.below hbA
            go_wp2_with fail
            refine HFc.out.mono ?_
            rintro e w5 ⟨rfl, rfl⟩
            go_wp2_with (first
              | (at_builtin; refine put_own rfl (.tmp 33) (.tmp 34) rfl Try.underlying28 elem_int' rfl oe rfl (m := m) (news := ints (natI (F m))) (by simp [HFLm.out]) hrH (one_ints _) (by omega) (by omega) hbA.size ?_
                 intro v2 w2 own2 hg2 ho2
                 have b2 := below_grown hbA hbA.size oe (Nat.le_refl _) hg2
                 have own2 : w2.ownsRow wo.heap.size 3 1 v2 m (ints (natI (F m))) := by simpa using own2
                 have own2a := own2.alloc (.cells #[.int .i64 (c : Int)] 3)
                 have b2a := b2.alloc b2.size (.cells #[.int .i64 (c : Int)] 3))
              | (at_builtin; refine put_own rfl (.tmp 35) (.tmp 37) rfl Try.underlying28 elem_int' rfl own2a rfl (m := 1) (news := [.int .i64 (c : Int)]) rfl (row_new _ _ _ rfl) (by simp [Value.oneCell']) (by omega) (by omega) b2a.size ?_
                 intro v3 w3 own3 hg3 ho3
                 have b3 := below_grown b2a b2a.size own2a (Nat.le_refl _) hg3
                 have own3 : w3.ownsRow wo.heap.size 3 1 v3 (m + 1) (ints (natI (F (m + 1)))) := by rw [HFSm.out]; simpa [ints] using own3
                 obtain ⟨A3, c3, rfl, _, _, _, _⟩ := own_row own3))
            exact ⟨⟨m + 1, c3, A3, HLT.out, by simp, own_mono own3 HB.out.size, RA.out.below b3, below_then HB.out HB.out.size b3⟩, by simp; omega⟩
      · obtain rfl : m = n := by omega
        have mn : ¬ ((m : Int) < (m : Int)) := by omega
        have OW := hide hown
        have HB := hide hb
        clear hown hb hra
        go_wp2_with fail
        go_ret
        exact ⟨_, rfl, OW.out, HB.out⟩
end Go.Proofs.Ytdjkdjnbmhpokac
