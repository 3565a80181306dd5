
/-
  The program's guards: setsThat, fewestOf.
-/
import Derived.Test.YtmednlgokcbdjadPGuardB
import Derived.WalkMore
namespace Go.Proofs.Ytmednlgokcbdjad
open Go.RowKit
set_option linter.unusedVariables false

/-- The tests of sets: whether they are loose, and whether they guard all. -/
def testV (b : Bool) : Value := .func (.func (if b then 23 else 35)) #[] #[]
def testP (L : List Nat) (b : Bool) : Nat → Bool := if b then looseP L else guardQ L
theorem sets_snoc (ts : List (Nat → Bool)) (k : Nat) : setsOf ts (k + 1) = setsOf ts k ++ if ts.all (fun t => t k) then [k] else [] := by
  simp only [setsOf, List.range_succ, List.filter_append, List.filter_cons, List.filter_nil]
theorem sets_len (ts : List (Nat → Bool)) (k : Nat) : (setsOf ts k).length ≤ k := by
  have := List.length_filter_le (fun s => ts.all fun t => t s) (List.range k)
  simpa [setsOf] using this
theorem natI_snoc (l : List Nat) (k : Nat) : natI (l ++ [k]) = natI l ++ [(k : Int)] := by simp [natI]

set_option maxHeartbeats 1000000 in
set_option maxRecDepth 100000 in
theorem setsThat_c (A T : Option Addr) (c tc : Nat) (L : List Nat) (fs : List Bool) (w : World) (hr : Row w A (ints (natI L))) (hL : Sets9 L) (ht : Row w T (fs.map testV)) (hf : fs.length ≤ 2) :
    Calls Try.prog 22 #[.slice A L.length c, .slice T fs.length tc] w (Owns 3 1 (setsOf (fs.map (testP L)) (2 ^ L.length)).length (ints (natI (setsOf (fs.map (testP L)) (2 ^ L.length)))) w) := by
  have h9 := hL.len
  obtain ⟨p1, p2⟩ := pow9 h9
  have es := shl9 L.length h9
  have HT := hide (fun (s : Nat) (hs : s < 512) (w5 : World) (h5 : Row w5 A (ints (natI L))) (b : Bool) => show Calls Try.prog (if b then 23 else 35) #[.slice A L.length c, .int .i64 (s : Int)] w5 fun e w' => e = .returned (.bool (testP L b s)) ∧ w5 = w' by
    cases b with
    | true => exact isLoose_c A c L s w5 h5 hL hs
    | false => exact isGuard_c A c L s w5 h5 hL hs)
  have HS := hide (sets_snoc (fs.map (testP L)))
  have HN := hide (sets_len (fs.map (testP L)))
  have HA := hide (fun (k : Nat) => show (fs.map (testP L)).all (fun t => t k) = fs.all (fun b => testP L b k) by rw [List.all_map]; rfl)
  have H0 : Hid (setsOf (fs.map (testP L)) 0 = []) := rfl
  have HR := hide hr
  have HTs := hide ht
  clear hL hr ht
  generalize testP L = tp at *
  generalize (2 ^ L.length : Nat) = P at *
  generalize setsOf (fs.map tp) = S at *
  go_enter Try.func22, Try.ntmps22
  go_wp2_with fail
  go_step3
  go_wp2_with fail
  go_step3
  go_wp2_with fail
  go_loopw [5, 12] (fun v i wr => ∃ k : Nat, k ≤ P ∧ i = .int .i64 (k : Int) ∧ wr.ownsRow w.heap.size 3 1 v (S k).length (ints (natI (S k))) ∧ Below w.heap.size w wr) (fun _ i _ => P - (intOf i).toNat)
  case atStart => exact ⟨0, Nat.zero_le _, rfl, by rw [H0.out]; exact World.ownsRow_nil _ _ _ _, Below.refl _ _⟩
  case round =>
    obtain ⟨k, hk, rfl, hown, hb⟩ := hrel
    obtain ⟨wo, rfl⟩ : ∃ wo : World, wo = wr := ⟨_, rfl⟩
    have z := hb.size
    obtain ⟨A0, c0, rfl, _⟩ := own_row hown
    by_cases hlt : k < P
    · have hln := HN.out k
      have Rk := hide (HR.out.below hb)
      have Tk := HTs.out.below hb
      have HK := hide (fun b => HT.out k (by omega) wo Rk.out b)
      have HSk := hide (HS.out k)
      rw [HA.out k] at HSk
      go_wp2_with fail
      go_loopw [17] (fun i wi => ∃ j : Nat, j ≤ fs.length ∧ i = .int .i64 (j : Int) ∧ Hid ((fs.take j).all (fun b => tp b k) = true) ∧ wo = wi) (fun i _ => fs.length - (intOf i).toNat)
      case atStart => exact ⟨0, Nat.zero_le _, rfl, by simp [Hid], rfl⟩
      case round =>
        obtain ⟨j, hj, rfl, hall, rfl⟩ := hrel
        by_cases hjl : j < fs.length
        · obtain ⟨ad, rfl, hcj⟩ := Tk j (by simpa using hjl)
          rw [List.getElem_map] at hcj
          obtain ⟨b, hb'⟩ : ∃ b, fs[j] = b := ⟨_, rfl⟩
          rw [hb'] at hcj
          have HKb := HK.out b
          have HJ := hide (show (fs.take (j + 1)).all (fun b => tp b k) = tp b k by
            rw [List.take_succ_eq_append_getElem hjl, List.all_append, hall.out, hb']
            simp)
          have HF := hide (show tp b k = false → fs.all (fun b => tp b k) = false from fun h => by
            rw [List.all_eq_false]
            exact ⟨b, by rw [← hb']; exact List.getElem_mem hjl, by rw [h]; decide⟩)
          generalize tp b k = r at *
          have HKb := hide HKb
          have j0 : (0 : Int) ≤ (j : Int) := by omega
          have j1 : (j : Int) < (fs.length : Int) := by omega
          clear hb'
          have HO := hide (fun h : r = false => show S (k + 1) = S k by rw [HSk.out, HF.out h]; simp)
          cases b with
          | true =>
            simp only [testV, if_true] at hcj
            cases r with
            | true =>
              clear HO
              go_wp2_with fail
              refine HKb.out.mono ?_
              rintro e w7 ⟨rfl, rfl⟩
              go_wp2_with fail
              exact ⟨⟨j + 1, hjl, rfl, HJ.out, trivial⟩, by simp [intOf]; omega⟩
            | false =>
              have HY : Hid (S (k + 1) = S k) := hide (HO.out rfl)
              clear HO HF
              go_wp2_with fail
              refine HKb.out.mono ?_
              rintro e w7 ⟨rfl, rfl⟩
              go_wp2_with fail
              exact ⟨⟨k + 1, hlt, rfl, by rw [HY.out]; exact hown, hb⟩, by simp [intOf]; omega⟩
          | false =>
            simp only [testV, Bool.false_eq_true, if_false] at hcj
            cases r with
            | true =>
              clear HO
              go_wp2_with fail
              refine HKb.out.mono ?_
              rintro e w7 ⟨rfl, rfl⟩
              go_wp2_with fail
              exact ⟨⟨j + 1, hjl, rfl, HJ.out, trivial⟩, by simp [intOf]; omega⟩
            | false =>
              have HY : Hid (S (k + 1) = S k) := hide (HO.out rfl)
              clear HO HF
              go_wp2_with fail
              refine HKb.out.mono ?_
              rintro e w7 ⟨rfl, rfl⟩
              go_wp2_with fail
              exact ⟨⟨k + 1, hlt, rfl, by rw [HY.out]; exact hown, hb⟩, by simp [intOf]; omega⟩
        · obtain rfl : j = fs.length := by omega
          have HO := hide (show S (k + 1) = S k ++ [k] by
            have := hall.out
            rw [List.take_length] at this
            rw [HSk.out, this]
            simp)
          have hvc := hide (hown.alloc (.cells #[.int .i64 (k : Int)] 3))
          have hbc := hb.alloc z (.cells #[.int .i64 (k : Int)] 3)
          go_wp2_with ((at_builtin; refine put_own rfl (.tmp 27) (.tmp 29) rfl Try.underlying26 elem_int rfl hvc.out rfl (m := 1) (news := [.int .i64 (k : Int)]) rfl (row_new _ _ _ rfl) (by simp [Value.oneCell']) (by omega) (by omega) hbc.size ?_; intro v9 w9 own9 hg9 ho9))
          go_round
          case rel => exact ⟨k + 1, hlt, by go_num, by rw [HO.out, natI_snoc]; simpa [ints] using own9, below_grown hbc hbc.size hvc.out (Nat.le_refl _) hg9⟩
          case measure => simp [intOf]; omega
    · obtain rfl : k = P := by omega
      go_wp2_with fail
      go_ret
      exact ⟨_, rfl, hown, hb⟩

theorem pc9_of {t : Nat} (h : t < 512) : pcN 9 t ≤ 9 := pc9_lt ⟨t, h⟩
def minTo (l : List Nat) (k : Nat) : Nat := (l.take k).foldl (fun a s => min a (pcN 9 s)) (pcN 9 (l[0]?.getD 0))
theorem minTo_snoc (l : List Nat) (k : Nat) (h : k < l.length) : minTo l (k + 1) = min (minTo l k) (pcN 9 (l[k]?.getD 0)) := by
  unfold minTo
  rw [List.take_succ_eq_append_getElem h, List.foldl_append, List.getElem?_eq_getElem h]
  rfl

set_option maxHeartbeats 1000000 in
set_option maxRecDepth 100000 in
theorem fewestOf_c (A : Option Addr) (c : Nat) (l : List Nat) (w : World) (hr : Row w A (ints (natI l))) (h0 : 0 < l.length) (hl : ∀ k, k < l.length → l[k]?.getD 0 < 512) (hm : l.length ≤ 1000) :
    Calls Try.prog 34 #[.slice A l.length c] w fun e w' => e = .returned (.int .i64 ((minOf l : Nat) : Int)) ∧ w = w' := by
  have HR := hide hr
  have HZ := hide (fun k (hk : k < l.length) (w5 : World) => sizeOf_9 (l[k]?.getD 0) (hl k hk) w5)
  have HB := hide (fun k (hk : k < l.length) => pc9_of (hl k hk))
  have HM := hide (minTo_snoc l)
  have HE := hide (show minOf l = minTo l l.length by unfold minOf minTo; rw [List.take_length])
  have hln := natI_len l
  obtain ⟨ad, rfl, hc0⟩ := hr.int (k := 0) (by omega)
  rw [natI_at] at hc0
  have HZ0 := hide (HZ.out 0 h0)
  clear hr hl
  have l0 : (0 : Int) < (l.length : Int) := by omega
  have had : ad.add 0 = ad := by unfold Addr.add; simp
  rw [had] at hc0
  have H0 := hide (show minTo l 0 = pcN 9 (l[0]?.getD 0) from rfl)
  generalize l[0]?.getD 0 = x0 at *
  go_enter Try.func34, Try.ntmps34
  go_wp2_with fail
  refine (HZ0.out w).mono ?_
  rintro e w7 ⟨rfl, rfl⟩
  rw [← H0.out]
  go_wp2_with fail
  go_loopw [3, 12] (fun a i wr => ∃ k : Nat, k ≤ l.length ∧ i = .int .i64 (k : Int) ∧ a = .int .i64 ((minTo l k : Nat) : Int) ∧ w = wr) (fun _ i _ => l.length - (intOf i).toNat)
  case atStart => exact ⟨0, Nat.zero_le _, rfl, rfl, rfl⟩
  case round =>
    obtain ⟨k, hk, rfl, rfl, rfl⟩ := hrel
    by_cases hlt : k < l.length
    · obtain ⟨_, ⟨rfl⟩, hck⟩ := HR.out.int (k := k) (by omega)
      rw [natI_at] at hck
      have HZk := hide (HZ.out k hlt)
      have HMk := hide (HM.out k hlt)
      generalize l[k]?.getD 0 = x at *
      generalize pcN 9 x = q at *
      generalize minTo l k = b at *
      have k0 : (0 : Int) ≤ (k : Int) := by omega
      have k1 : (k : Int) < (l.length : Int) := by omega
      go_wp2_with fail
      refine (HZk.out w).mono ?_
      rintro e w7 ⟨rfl, rfl⟩
      go_wp2_with fail
      exact ⟨⟨k + 1, hlt, rfl, by rw [HMk.out]; congr 1; omega, trivial⟩, by simp [intOf]; omega⟩
    · obtain rfl : k = l.length := by omega
      go_wp2_with fail
      go_ret
      exact ⟨by rw [HE.out]; rfl, rfl⟩
end Go.Proofs.Ytmednlgokcbdjad
