
/-
  Chases: the model's foldOrder and FoldOrder.
-/
import Derived.Test.YtakphmcelhbaiabChaseC
import Derived.StillTailTactics
namespace Go.Proofs.Ytakphmcelhbaiab
open Go.RowKit
set_option linter.unusedVariables false

theorem i64_andNotC (a b : Nat) (ha : a < 512) (hb : b < 512) : bits .andNot .i64 (a : Int) (b : Int) = ((a - (a &&& b) : Nat) : Int) := by
  have h1 : (BitVec.ofInt 64 (a : Int)).toNat = a := by
    rw [BitVec.ofInt_natCast, BitVec.toNat_ofNat]; exact Nat.mod_eq_of_lt (by omega)
  have h2 : (BitVec.ofInt 64 (b : Int)).toNat = b := by
    rw [BitVec.ofInt_natCast, BitVec.toNat_ofNat]; exact Nat.mod_eq_of_lt (by omega)
  show IntKind.i64.wrap ((BitVec.ofInt 64 (a : Int) &&& ~~~(BitVec.ofInt 64 (b : Int))).toNat : Int) = _
  generalize BitVec.ofInt 64 (a : Int) = X at *
  generalize BitVec.ofInt 64 (b : Int) = Y at *
  have hd : (X &&& ~~~Y) &&& (X &&& Y) = 0#64 := by
    apply BitVec.eq_of_getLsbD_eq
    intro i hi
    simp only [BitVec.getLsbD_and, BitVec.getLsbD_not, BitVec.getLsbD_zero]
    cases X.getLsbD i <;> cases Y.getLsbD i <;> simp
  have ho : (X &&& ~~~Y) + (X &&& Y) = X := by
    rw [BitVec.add_eq_or_of_and_eq_zero _ _ hd]
    apply BitVec.eq_of_getLsbD_eq
    intro i hi
    simp only [BitVec.getLsbD_and, BitVec.getLsbD_not, BitVec.getLsbD_or]
    cases X.getLsbD i <;> cases Y.getLsbD i <;> simp [hi]
  have hn := congrArg BitVec.toNat ho
  rw [BitVec.toNat_add, h1] at hn
  have l1 : (X &&& ~~~Y).toNat ≤ a := by rw [BitVec.toNat_and, h1]; exact Nat.and_le_left
  have l2 : (X &&& Y).toNat = a &&& b := by rw [BitVec.toNat_and, h1, h2]
  have l3 : a &&& b ≤ a := Nat.and_le_left
  rw [l2, Nat.mod_eq_of_lt (by omega)] at hn
  rw [IntWalk.i64_in _ (by omega)]
  omega
theorem bit_le {x i : Nat} (h : bitN x i = 1) : 2 ^ i ≤ x := by
  unfold bitN at h
  rcases Nat.lt_or_ge x (2 ^ i) with h' | h'
  · rw [Nat.div_eq_of_lt h'] at h; cases h
  · exact h'
theorem fit_more {L : List Nat} {l i k : Nat} (h : fitTo L l i k = true) : ∀ m, fitTo L l i (k + m) = true
  | 0 => h
  | m + 1 => by
    show (fitTo L l i (k + m) || _) = true
    rw [fit_more h m, Bool.true_or]
theorem fit_all {L : List Nat} {l i k n : Nat} (h : fitTo L l i k = true) (hk : k ≤ n) : fitTo L l i n = true := by
  have := fit_more h (n - k)
  rwa [show k + (n - k) = n by omega] at this
theorem first_more {L : List Nat} {l i x : Nat} (h : firstTo L l i = some x) : ∀ m, firstTo L l (i + m) = some x
  | 0 => h
  | m + 1 => by
    show (match firstTo L l (i + m) with | some x => some x | none => _) = some x
    rw [first_more h m]
theorem first_all {L : List Nat} {l i x n : Nat} (h : firstTo L l i = some x) (hi : i ≤ n) : firstTo L l n = some x := by
  have := first_more h (n - i)
  rwa [show i + (n - i) = n by omega] at this
theorem first_here {L : List Nat} {l i n : Nat} (hn : L.length = n) (hi : i < n) (h0 : firstTo L l i = none) (h : fitTo L l i n = true) : firstTo L l n = some i := by
  refine first_all (i := i + 1) ?_ hi
  show (match firstTo L l i with | some x => some x | none => if fitTo L l i L.length then some i else none) = some i
  rw [h0, hn]
  simp [h]
theorem first_not {L : List Nat} {l i n : Nat} (hn : L.length = n) (h0 : firstTo L l i = none) (h : fitTo L l i n = false) : firstTo L l (i + 1) = none := by
  show (match firstTo L l i with | some x => some x | none => if fitTo L l i L.length then some i else none) = none
  rw [h0, hn]
  simp [h]
def againN : Value → Nat
  | .bool true => 1
  | _ => 0
/-- What is folded away, what is left to fold. -/
def FoldSt (L : List Nat) (F : List Nat) (n : Nat) (a : Bool) (l : Nat) (out : List Nat) : Prop :=
  (a = true ∧ ∃ f rest, foldFrom L f l = some rest ∧ out ++ rest = F ∧ out.length + f = n + 1 ∧ l < 512) ∨ (a = false ∧ out = F ∧ l < 512)
set_option maxHeartbeats 4000000 in
set_option maxRecDepth 100000 in
theorem foldOrder_c (A : Option Addr) (c : Nat) (L F : List Nat) (n : Nat) (W : World) (hn : L.length = n) (hn1 : 1 ≤ n) (hL : Sets9 L) (hF : foldFrom L (n + 1) (2 ^ n - 1) = some F) (hr : Row W A (ints (natI L))) :
    Calls Try.prog 20 #[.slice A n c] W (Owns 3 1 F.length (ints (natI F)) W) := by
  have hn9 : n ≤ 9 := by have := hL.len; omega
  have HPn := hide (fun w5 => specPower9_c n hn9 w5)
  have HPi := hide (fun j (hj : j ≤ 9) w5 => specPower9_c j hj w5)
  have HBt := hide (fun x j (hx : x < 512) (hj : j ≤ 9) w5 => specBit9_c x j hx hj w5)
  have HL := hide hL
  have HR := hide hr
  have HN := hide hn
  have HF := hide hF
  obtain ⟨p1, p2⟩ := pow9 hn9
  have HS0 : Hid (FoldSt L F n true (2 ^ n - 1) []) := .inl ⟨rfl, n + 1, F, hF, rfl, by simp, by omega⟩
  have e0 : IntKind.i64.wrap (((2 ^ n : Nat) : Int) - 1) = ((2 ^ n - 1 : Nat) : Int) := (IntWalk.i64_in _ (by omega)).trans (by omega)
  clear hL hr hn hF
  generalize 2 ^ n - 1 = l0 at *
  generalize 2 ^ n = P at *
  go_enter Try.func20, Try.ntmps20
  go_wp2_with fail
  refine (HPn.out _).mono ?_
  rintro e w1 ⟨rfl, rfl⟩
  go_wp2_with fail
  clear HPn e0 p1 p2
  go_loopw [3, 4, 5] (fun lv v av wr => ∃ (a : Bool) (l : Nat) (out : List Nat), lv = .int .i64 (l : Int) ∧ av = .bool a ∧ Hid (FoldSt L F n a l out) ∧ wr.ownsRow W.heap.size 3 1 v out.length (ints (natI out)) ∧ Below W.heap.size W wr) (fun lv _ av _ => 2 * (intOf lv).toNat + againN av)
  case atStart => exact ⟨true, l0, [], rfl, rfl, HS0, by simpa [natI, ints] using World.ownsRow_made W (e := 3) (size := 1) #[] 0 (Nat.le_refl _) (by simp [maxLen]) rfl, (Below.refl _ _).alloc (Nat.le_refl _) _⟩
  case round =>
    clear HS0
    obtain ⟨a, l, out, rfl, rfl, hst, hown, hb⟩ := hrel
    obtain ⟨wo, rfl⟩ : ∃ wo : World, wo = wr := ⟨_, rfl⟩
    obtain ⟨A0, c0, rfl, _⟩ := own_row hown
    cases a with
    | false =>
      obtain ⟨he, hl5⟩ : out = F ∧ l < 512 := by
        rcases hst.out with ⟨h, _⟩ | ⟨_, h⟩
        · cases h
        · exact h
      subst he
      clear hst
      go_wp2_with fail
      go_ret
      exact ⟨_, rfl, hown, hb⟩
    | true =>
      obtain ⟨f, rest, hff, hor, hlf, hl5⟩ : ∃ f rest, foldFrom L f l = some rest ∧ out ++ rest = F ∧ out.length + f = n + 1 ∧ l < 512 := by
        rcases hst.out with ⟨_, h⟩ | ⟨h, _⟩
        · exact h
        · cases h
      obtain ⟨f, rfl⟩ : ∃ f', f = f' + 1 := ⟨f - 1, by
        rcases f with _ | f
        · cases hff
        · rfl⟩
      have HNONE : Hid (firstTo L l n = none → out = F) := fun h => by
        unfold foldFrom at hff
        rw [HN.out, h] at hff
        injection hff with hff
        rw [← hor, ← hff, List.append_nil]
      have HSOME : Hid (∀ i, i < n → firstTo L l n = some i → 2 ^ i ≤ l → FoldSt L F n true (l - 2 ^ i) (out ++ [i])) := fun i hi h hle => by
        unfold foldFrom at hff
        rw [HN.out, h] at hff
        simp only [Option.map_eq_some_iff] at hff
        obtain ⟨r2, h1, h2⟩ := hff
        exact .inl ⟨rfl, f, r2, h1, by rw [← hor, ← h2]; simp, by simp; omega, Nat.lt_of_le_of_lt (Nat.sub_le _ _) hl5⟩
      have hout : out.length ≤ 10 := by omega
      have HOW := hide hown
      have HB := hide hb
      clear hff hor hlf hst hown hb
      go_wp2_with fail
      go_loopw [3, 4, 5, 6] (fun lv v av iv wr => ∃ (a : Bool) (l2 : Nat) (o2 : List Nat) (i : Nat), i ≤ n ∧ lv = .int .i64 (l2 : Int) ∧ av = .bool a ∧ iv = .int .i64 (i : Int) ∧ Hid ((a = false ∧ l2 = l ∧ o2 = out ∧ firstTo L l i = none) ∨ (a = true ∧ l2 < l ∧ FoldSt L F n true l2 o2)) ∧ wr.ownsRow W.heap.size 3 1 v o2.length (ints (natI o2)) ∧ Below W.heap.size W wr) (fun _ _ _ iv _ => n - (intOf iv).toNat)
      case atStart => exact ⟨false, l, out, 0, Nat.zero_le _, rfl, rfl, rfl, .inl ⟨rfl, rfl, rfl, rfl⟩, HOW.out, HB.out⟩
      case round =>
        clear HOW HB
        obtain ⟨a, l2, o2, i, hi, rfl, rfl, rfl, hst, hown, hb⟩ := hrel
        obtain ⟨wi, rfl⟩ : ∃ wi : World, wi = wr := ⟨_, rfl⟩
        cases a with
        | true =>
          obtain ⟨hlt2, hF2⟩ : l2 < l ∧ FoldSt L F n true l2 o2 := by
            rcases hst.out with ⟨h, _⟩ | ⟨_, h⟩
            · cases h
            · exact h
          have HF2 := hide hF2
          have HOW := hide hown
          have HB := hide hb
          clear hst hF2 hown hb
          by_cases hin : i < n
          · go_wp2_with fail
            exact ⟨⟨true, l2, o2, rfl, rfl, HF2, HOW.out, HB.out⟩, by simp [intOf, againN]; omega⟩
          · go_wp2_with fail
            exact ⟨⟨true, l2, o2, rfl, rfl, HF2, HOW.out, HB.out⟩, by simp [intOf, againN]; omega⟩
        | false =>
          obtain ⟨hl2, ho2, hfi⟩ : l2 = l ∧ o2 = out ∧ firstTo L l i = none := by
            rcases hst.out with ⟨_, h⟩ | ⟨h, _⟩
            · exact h
            · cases h
          subst hl2
          subst ho2
          clear hst
          by_cases hin : i < n
          · have HFI := hide hfi
            have HIN := hide hin
            have HOW := hide hown
            have HB := hide hb
            clear hfi hown hb
            have i0 : (0 : Int) ≤ (i : Int) := by omega
            have i1 : (i : Int) < (n : Int) := by omega
            go_wp2_with fail
            go_loopw [3, 4, 5, 7] (fun lv v av kv wr => ∃ (a : Bool) (l3 : Nat) (o3 : List Nat) (k : Nat), k ≤ n ∧ lv = .int .i64 (l3 : Int) ∧ av = .bool a ∧ kv = .int .i64 (k : Int) ∧ Hid ((a = false ∧ l3 = l2 ∧ o3 = o2 ∧ fitTo L l2 i k = false) ∨ (a = true ∧ l3 < l2 ∧ FoldSt L F n true l3 o3)) ∧ wr.ownsRow W.heap.size 3 1 v o3.length (ints (natI o3)) ∧ Below W.heap.size W wr) (fun _ _ _ kv _ => n - (intOf kv).toNat)
            case atStart => exact ⟨false, l2, o2, 0, Nat.zero_le _, rfl, rfl, rfl, .inl ⟨rfl, rfl, rfl, rfl⟩, HOW.out, HB.out⟩
            case round =>
              clear HOW HB
              obtain ⟨a, l3, o3, k, hk, rfl, rfl, rfl, hst, hown, hb⟩ := hrel
              obtain ⟨wk, rfl⟩ : ∃ wk : World, wk = wr := ⟨_, rfl⟩
              cases a with
              | true =>
                obtain ⟨hlt2, hF2⟩ : l3 < l2 ∧ FoldSt L F n true l3 o3 := by
                  rcases hst.out with ⟨h, _⟩ | ⟨_, h⟩
                  · cases h
                  · exact h
                have HF2 := hide hF2
                have HLT := hide hlt2
                have HOW := hide hown
                have HB := hide hb
                clear hst hF2 hown hb hlt2
                by_cases hkn : k < n
                · go_wp2_with fail
                  exact ⟨⟨true, l3, o3, i + 1, HIN.out, rfl, rfl, by go_num, .inr ⟨rfl, HLT.out, HF2.out⟩, HOW.out, HB.out⟩, by simp [intOf]; omega⟩
                · go_wp2_with fail
                  exact ⟨⟨true, l3, o3, i + 1, HIN.out, rfl, rfl, by go_num, .inr ⟨rfl, HLT.out, HF2.out⟩, HOW.out, HB.out⟩, by simp [intOf]; omega⟩
              | false =>
                obtain ⟨hl3, ho3, hft⟩ : l3 = l2 ∧ o3 = o2 ∧ fitTo L l2 i k = false := by
                  rcases hst.out with ⟨_, h⟩ | ⟨h, _⟩
                  · exact h
                  · cases h
                subst hl3
                subst ho3
                clear hst
                have HOW := hide hown
                have HB := hide hb
                by_cases hkn : k < n
                · have HFS : Hid (fitTo L l3 i (k + 1) = (fitTo L l3 i k || fitF L l3 i k)) := rfl
                  have HFT := hide hft
                  have HKN := hide hkn
                  have k0 : (0 : Int) ≤ (k : Int) := by omega
                  have k1 : (k : Int) < (n : Int) := by omega
                  have HBi := hide (fun w5 => HBt.out l3 i hl5 (by omega) w5)
                  have HBk := hide (fun w5 => HBt.out l3 k hl5 (by omega) w5)
                  have HFD : Hid (fitF L l3 i k = (i != k && bitN l3 i == 1 && bitN l3 k == 1 && ((((L[i]?.getD 0) ||| 2 ^ i) &&& l3) &&& ((L[k]?.getD 0) ||| 2 ^ k) == (((L[i]?.getD 0) ||| 2 ^ i) &&& l3)))) := rfl
                  clear hown hb hft
                  by_cases hik : i = k
                  · have hik' : ((i : Int) == (k : Int)) = true := by rw [hik]; simp
                    have HNO : Hid (fitTo L l3 i (k + 1) = false) := by show _ = _; rw [HFS.out, HFT.out, HFD.out, hik]; simp
                    clear hik
                    go_wp2_with fail
                    exact ⟨⟨false, l3, o3, k + 1, HKN.out, rfl, rfl, by go_num, .inl ⟨rfl, rfl, rfl, HNO.out⟩, HOW.out, HB.out⟩, by simp [intOf]; omega⟩
                  · have hik' : ((i : Int) == (k : Int)) = false := by rw [beq_eq_false_iff_ne]; omega
                    rcases bitN_two l3 i with hbi | hbi
                    · have HNO : Hid (fitTo L l3 i (k + 1) = false) := by show _ = _; rw [HFS.out, HFT.out, HFD.out, hbi]; simp
                      rw [hbi] at HBi
                      clear hbi hik
                      go_wp2_with fail
                      refine (HBi.out _).mono ?_
                      rintro e w7 ⟨rfl, rfl⟩
                      go_wp2_with fail
                      exact ⟨⟨false, l3, o3, k + 1, HKN.out, rfl, rfl, by go_num, .inl ⟨rfl, rfl, rfl, HNO.out⟩, HOW.out, HB.out⟩, by simp [intOf]; omega⟩
                    · rcases bitN_two l3 k with hbk | hbk
                      · have HNO : Hid (fitTo L l3 i (k + 1) = false) := by show _ = _; rw [HFS.out, HFT.out, HFD.out, hbk]; simp
                        rw [hbi] at HBi
                        rw [hbk] at HBk
                        clear hbi hbk hik
                        go_wp2_with fail
                        refine (HBi.out _).mono ?_
                        rintro e w7 ⟨rfl, rfl⟩
                        go_wp2_with fail
                        refine (HBk.out _).mono ?_
                        rintro e w8 ⟨rfl, rfl⟩
                        go_wp2_with fail
                        exact ⟨⟨false, l3, o3, k + 1, HKN.out, rfl, rfl, by go_num, .inl ⟨rfl, rfl, rfl, HNO.out⟩, HOW.out, HB.out⟩, by simp [intOf]; omega⟩
                      · obtain ⟨ad, rfl, hci⟩ := (HR.out.below HB.out).int (k := i) (by rw [natI_len, HN.out]; omega)
                        obtain ⟨_, ⟨rfl⟩, hck⟩ := (HR.out.below HB.out).int (k := k) (by rw [natI_len, HN.out]; omega)
                        rw [natI_at] at hci hck
                        have x1 := HL.out.bd i
                        have x2 := HL.out.bd k
                        have y1 : 2 ^ i < 512 := Nat.lt_of_le_of_lt (Nat.pow_le_pow_right (by omega) (by omega : i ≤ 8)) (by decide)
                        have y2 : 2 ^ k < 512 := Nat.lt_of_le_of_lt (Nat.pow_le_pow_right (by omega) (by omega : k ≤ 8)) (by decide)
                        have hle := bit_le hbi
                        have hp1 : 1 ≤ 2 ^ i := Nat.one_le_two_pow
                        rw [hbi, hbk] at HFD
                        rw [hbi] at HBi
                        rw [hbk] at HBk
                        have HPI := hide (fun w5 => HPi.out i (by omega) w5)
                        have HPK := hide (fun w5 => HPi.out k (by omega) w5)
                        have HSI := hide (fun h => HSOME.out i hin h hle)
                        generalize L[i]?.getD 0 = li at *
                        generalize L[k]?.getD 0 = lk at *
                        generalize 2 ^ i = pi at *
                        generalize 2 ^ k = pk at *
                        obtain ⟨o1, o1b⟩ := i64_or9 li pi x1 y1
                        obtain ⟨o2', o2b⟩ := i64_or9 lk pk x2 y2
                        generalize li ||| pi = mi at *
                        generalize lk ||| pk = mk at *
                        obtain ⟨a1, a1b⟩ := i64_and9 mi l3 o1b hl5
                        generalize mi &&& l3 = near at *
                        have a2 := i64_andNotC near mk a1b o2b
                        have hnl : near &&& mk ≤ near := Nat.and_le_left
                        generalize near &&& mk = nm at *
                        have HFD2 : Hid (fitF L l3 i k = (nm == near)) := by show _ = _; rw [HFD.out]; simp [hik]
                        have e3 : IntKind.i64.wrap ((l3 : Int) - (pi : Int)) = ((l3 - pi : Nat) : Int) := (IntWalk.i64_in _ (by omega)).trans (by omega)
                        have hlt3 : l3 - pi < l3 := by omega
                        clear HFD hbi hbk
                        by_cases hfit : nm = near
                        · have hd : near - nm = 0 := by omega
                          rw [hd] at a2
                          have HST := hide (HSI.out (first_here HN.out hin HFI.out (fit_all (k := k + 1) (by rw [HFS.out, HFD2.out, hfit]; simp) hkn)))
                          clear hd hfit HSI HFD2 hnl hik
                          go_wp2_with fail
                          refine (HBi.out _).mono ?_
                          rintro e w7 ⟨rfl, rfl⟩
                          go_wp2_with fail
                          refine (HBk.out _).mono ?_
                          rintro e w8 ⟨rfl, rfl⟩
                          go_wp2_with fail
                          refine wp_region_still_lit (by kernel_rfl) (by kernel_rfl) ?_
                          repeat still_step
                          still_call ((HPI.out _).mono (fun _ _ h => ⟨h.1, h.2.symm⟩))
                          repeat still_step
                          refine wpStill_nil ?_
                          change Exit.then _ _ _ _ wk.drew
                          have hckd : wk.drew.cell? (ad.add k) = some (.int .i64 (lk : Int)) := hck
                          have HOW := hide HOW.out.drew
                          have HB := hide HB.out.drew
                          clear hci hck
                          generalize wk.drew = wd at *
                          go_wp2_with fail
                          refine wp_region_still_lit (by kernel_rfl) (by kernel_rfl) ?_
                          repeat still_step
                          still_call ((HPK.out _).mono (fun _ _ h => ⟨h.1, h.2.symm⟩))
                          repeat still_step
                          refine wpStill_nil ?_
                          change Exit.then _ _ _ _ wd.drew
                          have HOW := hide HOW.out.drew
                          have HB := hide HB.out.drew
                          clear hckd
                          generalize wd.drew = we at *
                          have hvc := hide (HOW.out.alloc (.cells #[.int .i64 (i : Int)] 3))
                          have hbc := HB.out.alloc HB.out.size (.cells #[.int .i64 (i : Int)] 3)
                          go_wp2_with (first
                            | (refine (HPI.out _).mono ?_; rintro e w9 ⟨rfl, rfl⟩)
                            | (at_builtin; refine put_own rfl (.tmp 73) (.tmp 75) rfl Try.underlying22 elem_int' rfl hvc.out rfl (m := 1) (news := [.int .i64 (i : Int)]) rfl (row_new _ _ _ rfl) (by simp [Value.oneCell']) (by omega) (by omega) hbc.size ?_; intro v9 w9 own9 hg9 ho9))
                          exact ⟨⟨true, l3 - pi, o3 ++ [i], k + 1, HKN.out, rfl, rfl, by go_num, .inr ⟨rfl, hlt3, HST.out⟩, by simpa [natI, ints] using own9, below_grown hbc hbc.size hvc.out (Nat.le_refl _) hg9⟩, by simp [intOf]; omega⟩
                        · have HNO : Hid (fitTo L l3 i (k + 1) = false) := by show _ = _; rw [HFS.out, HFT.out, HFD2.out]; simp [hfit]
                          obtain ⟨d, hd⟩ : ∃ d, near - nm = d := ⟨_, rfl⟩
                          rw [hd] at a2
                          have hd0 : ((d : Int) == 0) = false := by rw [beq_eq_false_iff_ne]; omega
                          clear hd hfit HSI HFD2 hnl hik
                          go_wp2_with fail
                          refine (HBi.out _).mono ?_
                          rintro e w7 ⟨rfl, rfl⟩
                          go_wp2_with fail
                          refine (HBk.out _).mono ?_
                          rintro e w8 ⟨rfl, rfl⟩
                          go_wp2_with fail
                          refine wp_region_still_lit (by kernel_rfl) (by kernel_rfl) ?_
                          repeat still_step
                          still_call ((HPI.out _).mono (fun _ _ h => ⟨h.1, h.2.symm⟩))
                          repeat still_step
                          refine wpStill_nil ?_
                          change Exit.then _ _ _ _ wk.drew
                          have hckd : wk.drew.cell? (ad.add k) = some (.int .i64 (lk : Int)) := hck
                          have HOW := hide HOW.out.drew
                          have HB := hide HB.out.drew
                          clear hci hck
                          generalize wk.drew = wd at *
                          go_wp2_with fail
                          refine wp_region_still_lit (by kernel_rfl) (by kernel_rfl) ?_
                          repeat still_step
                          still_call ((HPK.out _).mono (fun _ _ h => ⟨h.1, h.2.symm⟩))
                          repeat still_step
                          refine wpStill_nil ?_
                          change Exit.then _ _ _ _ wd.drew
                          have HOW := hide HOW.out.drew
                          have HB := hide HB.out.drew
                          clear hckd
                          generalize wd.drew = we at *
                          go_wp2_with fail
                          exact ⟨⟨false, l3, o3, k + 1, HKN.out, rfl, rfl, by go_num, .inl ⟨rfl, rfl, rfl, HNO.out⟩, HOW.out, HB.out⟩, by simp [intOf]; omega⟩
                · obtain rfl : k = n := by omega
                  have HNI := hide (first_not HN.out HFI.out hft)
                  clear hft hown hb
                  go_wp2_with fail
                  exact ⟨⟨false, l3, o3, i + 1, HIN.out, rfl, rfl, by go_num, .inl ⟨rfl, rfl, rfl, HNI.out⟩, HOW.out, HB.out⟩, by simp [intOf]; omega⟩
          · obtain rfl : i = n := by omega
            have HFE := hide (HNONE.out hfi)
            have HOW := hide hown
            have HB := hide hb
            clear hfi hown hb
            go_wp2_with fail
            exact ⟨⟨false, l2, o2, rfl, rfl, .inr ⟨rfl, HFE.out, hl5⟩, HOW.out, HB.out⟩, by simp [intOf, againN]⟩
end Go.Proofs.Ytakphmcelhbaiab
