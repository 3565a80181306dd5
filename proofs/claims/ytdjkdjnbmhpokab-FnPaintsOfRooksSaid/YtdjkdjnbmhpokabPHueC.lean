
/-
  The program's paintOf, paintsFrom, PaintCount.
-/
import Derived.Test.YtdjkdjnbmhpokabPHueA
import Derived.Test.YtdjkdjnbmhpokabPaintD
import Derived.Test.YtdjkdjnbmhpokabPGuardB
namespace Go.Proofs.Ytdjkdjnbmhpokab
open Go.RowKit
set_option linter.unusedVariables false

theorem own_none {w : World} {base e size n c : Nat} {xs : List Value} (h : w.ownsRow base e size (.slice none n c) n xs) : n = 0 := by
  rcases h.2 with ⟨h1, _⟩ | ⟨g, cap, cur, h1, _⟩
  · injection h1
  · injection h1 with h1; cases h1
theorem put_small {p : List Nat} {j x : Nat} (hp : ∀ i : Nat, p[i]?.getD 0 < 512) (hx : x < 512) (hj : j < p.length) (i : Nat) : (putS p j x)[i]?.getD 0 < 512 := by
  rw [put_eq x hj]
  by_cases e : i = j
  · subst e
    rw [List.getElem?_set_self hj, Option.getD_some]
    exact (i64_or9 _ _ (hp i) hx).2
  · rw [List.getElem?_set_ne (fun h => e h.symm)]
    exact hp i
theorem sumL_bd {f : Nat → Nat} {B : Nat} : ∀ {l : List Nat}, (∀ x ∈ l, f x ≤ B) → sumL f l ≤ l.length * B
  | [], _ => by simp [sumL]
  | a :: l, h => by
    have h1 := h a List.mem_cons_self
    have h2 := sumL_bd (l := l) (fun x hx => h x (List.mem_cons_of_mem _ hx))
    unfold sumL at *
    rw [List.map_cons, List.sum_cons, List.length_cons, Nat.add_mul, Nat.one_mul]
    omega
theorem paintsS_le (L : List Nat) : ∀ m p, p.length ≤ 4 → paintsS L m p ≤ 4 ^ m
  | 0, p, h => Nat.le_refl _
  | m + 1, p, h => by
    have h1 := sumL_bd (f := fun c => paintsS L m (putS p c (2 ^ (L.length - (m + 1))))) (B := 4 ^ m) (l := freeL p (L[L.length - (m + 1)]?.getD 0)) (fun c hc => paintsS_le L m _ (by rw [put_len _ (free_lt _ _ _ c hc)]; exact h))
    have h2 : (freeL p (L[L.length - (m + 1)]?.getD 0)).length ≤ p.length := free_len _ _ _
    show sumL _ _ ≤ _
    rw [Nat.pow_succ, Nat.mul_comm]
    exact Nat.le_trans h1 (Nat.mul_le_mul_right _ (by omega))
theorem pow4_le {m : Nat} (h : m ≤ 9) : 4 ^ m ≤ 262144 := Nat.le_trans (Nat.pow_le_pow_right (by omega) h) (by decide)
theorem orL_one (t : Nat) : orL [(t : Int)] = 2 ^ t := by simp [orL]
theorem two9 {t : Nat} (h : t < 9) : 2 ^ t < 512 := Nat.lt_of_le_of_lt (Nat.pow_le_pow_right (by omega) (by omega : t ≤ 8)) (by decide)
theorem mem_at {l : List Nat} {k : Nat} (h : k < l.length) : l[k]?.getD 0 ∈ l := by
  rw [List.getElem?_eq_getElem h, Option.getD_some]
  exact List.getElem_mem h
set_option maxHeartbeats 2000000 in
set_option maxRecDepth 100000 in
theorem paintsFrom_c (L : List Nat) (n : Nat) (hlen : L.length = n) (h9 : Sets9 L) : ∀ (m : Nat) (p : List Nat), m ≤ n → p.length ≤ 4 → (∀ j : Nat, p[j]?.getD 0 < 512) → ∀ (A S : Option Addr) (ca cs : Nat) (w : World), Row w A (ints (natI L)) → Row w S (ints (natI p)) → (S = none → p = []) →
    Calls Try.prog 27 #[.slice A n ca, .int .i64 ((n - m : Nat) : Int), .slice S p.length cs] w (Plain (.int .i64 ((paintsS L m p : Nat) : Int)) w) := by
  have hn9 : n ≤ 9 := by have := h9.len; omega
  intro m
  induction m with
  | zero =>
    intro p hm hp4 hp A S ca cs w hrA hrS hS
    have heq : (((n - 0 : Nat) : Int) == (n : Int)) = true := by rw [beq_iff_eq]; omega
    have HP : Hid (paintsS L 0 p = 1) := rfl
    clear hm hp4 hp hrA hrS hS hlen h9
    go_enter Try.func27, Try.ntmps27
    go_wp2_with fail
    go_ret
    exact ⟨by rw [HP.out]; rfl, Below.refl _ _⟩
  | succ m ih =>
    intro p hm hp4 hp A S ca cs w hrA hrS hS
    obtain ⟨t, ht⟩ : ∃ t, n - (m + 1) = t := ⟨_, rfl⟩
    have ht9 : t < 9 := by omega
    have htn : n - m = t + 1 := by omega
    have heq : (((n - (m + 1) : Nat) : Int) == (n : Int)) = false := by rw [beq_eq_false_iff_ne]; omega
    have h2t := two9 ht9
    have hy := h9.bd t
    obtain ⟨adA, rfl, hcA⟩ := hrA.int (k := t) (by rw [natI_len]; omega)
    rw [natI_at] at hcA
    have HFREE := hide (freePaint_c S cs p (L[t]?.getD 0) w hrS hp hy (by omega))
    have HPUT := hide (fun (c : Nat) (hc : c < p.length) (C : Option Addr) (cc : Nat) (w5 : World) (h1 : Row w5 S (ints (natI p))) (h3 : Row w5 C (ints [(t : Int)])) => show Calls Try.prog 26 #[.slice S p.length cs, .int .i64 (c : Int), .slice C 1 cc] w5 (Owns 46 1 p.length (ints (natI (putS p c (2 ^ t)))) w5) by
      have := putPaint_c S cs c p C cc [(t : Int)] w5 h1 hS (by omega) (by omega) hp h3 (fun i hi => by
        have : i = 0 := by simpa using hi
        subst this
        simp
        omega) (by simp)
      rw [orL_one, put_len _ hc] at this
      exact this)
    have HREC := hide (fun (c : Nat) (hc : c < p.length) (g c2 : Nat) (w5 : World) (h1 : Row w5 (some adA) (ints (natI L))) (h2 : Row w5 (some ⟨g, 0, none⟩) (ints (natI (putS p c (2 ^ t))))) => show Calls Try.prog 27 #[.slice (some adA) n ca, .int .i64 ((t + 1 : Nat) : Int), .slice (some ⟨g, 0, none⟩) p.length c2] w5 (Plain (.int .i64 ((paintsS L m (putS p c (2 ^ t)) : Nat) : Int)) w5) by
      have := ih (putS p c (2 ^ t)) (by omega) (by rw [put_len _ hc]; exact hp4) (put_small hp h2t hc) (some adA) (some ⟨g, 0, none⟩) ca c2 w5 h1 h2 (fun e => by cases e)
      rwa [put_len _ hc, htn] at this)
    have HTOT : Hid (paintsS L (m + 1) p = sumL (fun c => paintsS L m (putS p c (2 ^ t))) (freeL p (L[t]?.getD 0))) := by
      show _ = _
      rw [← ht, ← hlen]
      rfl
    have hbd : sumL (fun c => paintsS L m (putS p c (2 ^ t))) (freeL p (L[t]?.getD 0)) ≤ 262144 := by
      rw [← HTOT.out]
      exact Nat.le_trans (paintsS_le L (m + 1) p hp4) (pow4_le (by omega))
    have HGB := hide (fun c (hc : c < p.length) => show paintsS L m (putS p c (2 ^ t)) ≤ 262144 from Nat.le_trans (paintsS_le L m _ (by rw [put_len _ hc]; exact hp4)) (pow4_le (by omega)))
    have HLT := hide (free_lt p (L[t]?.getD 0) p.length)
    have hFl : (freeTo p (L[t]?.getD 0) p.length).length ≤ p.length := free_len _ _ _
    change Hid (∀ x ∈ freeL p (L[t]?.getD 0), x < p.length) at HLT
    change (freeL p (L[t]?.getD 0)).length ≤ p.length at hFl
    obtain ⟨G, hG⟩ : ∃ G : Nat → Nat, G = fun c => paintsS L m (putS p c (2 ^ t)) := ⟨_, rfl⟩
    have HREC2 := hide (fun (c : Nat) => show paintsS L m (putS p c (2 ^ t)) = G c by rw [hG])
    simp only [HREC2.out] at HREC HGB
    rw [← hG] at HTOT hbd
    rw [ht] at heq ⊢
    rw [HTOT.out]
    generalize freeL p (L[t]?.getD 0) = F at *
    have HSUM := hide (fun k (h : k < F.length) => sumL_take G F k h)
    have HSL := hide (fun k => Nat.le_trans (sumL_le G F k) hbd)
    have HALL : Hid (sumL G (F.take F.length) = sumL G F) := by show _ = _; rw [List.take_length]
    have H0 : Hid (sumL G (F.take 0) = 0) := rfl
    have HAT := hide (fun k => natI_at F k)
    have HFN := hide (natI_len F)
    have e1 : IntKind.i64.wrap ((t : Int) + 1) = ((t + 1 : Nat) : Int) := (IntWalk.i64_in _ (by omega)).trans (by omega)
    have t0 : (0 : Int) ≤ (t : Int) := by omega
    have t1 : (t : Int) < (n : Int) := by omega
    generalize L[t]?.getD 0 = y at *
    have HRA := hide hrA
    have HRS := hide hrS
    have HFL := hide hFl
    have HP4 := hide hp4
    have hf4 : F.length ≤ 4 := by omega
    clear ih hm ht htn hlen h9 hp hS hrA hrS hG HREC2 HTOT hbd hp4 hFl
    go_enter Try.func27, Try.ntmps27
    go_wp2_with fail
    refine HFREE.out.mono ?_
    rintro e w1 ⟨v1, rfl, o1, b1⟩
    obtain ⟨A1, c1, rfl, _, _, _, _⟩ := own_row o1
    have R1 := hide (own_reads o1)
    have B1 := hide b1
    clear o1 b1 hcA HFREE
    go_wp2_with fail
    go_loopw [7, 21] (fun o i wr => ∃ k : Nat, k ≤ F.length ∧ i = .int .i64 (k : Int) ∧ o = .int .i64 ((sumL G (F.take k) : Nat) : Int) ∧ Below w1.heap.size w1 wr) (fun _ i _ => F.length - (intOf i).toNat)
    case atStart => exact ⟨0, Nat.zero_le _, rfl, by rw [H0.out]; rfl, Below.refl _ _⟩
    case round =>
      obtain ⟨k, hk, rfl, rfl, hb⟩ := hrel
      obtain ⟨wo, rfl⟩ : ∃ wo : World, wo = wr := ⟨_, rfl⟩
      by_cases hlt : k < F.length
      · obtain ⟨ad1, rfl, hcF⟩ := (R1.out.below hb).int (k := k) (by rw [HFN.out]; exact hlt)
        rw [HAT.out] at hcF
        have hcl := HLT.out _ (mem_at hlt)
        have HSk := hide (HSUM.out k hlt)
        have hsl := HSL.out k
        generalize F[k]?.getD 0 = c at *
        have HPk := hide (HPUT.out c hcl)
        have HRk := hide (HREC.out c hcl)
        have hgb := HGB.out c hcl
        generalize G c = gc at *
        generalize sumL G (F.take k) = ot at *
        have es : IntKind.i64.wrap ((ot : Int) + (gc : Int)) = ((ot + gc : Nat) : Int) := (IntWalk.i64_in _ (by omega)).trans (by omega)
        obtain ⟨nw, hnw⟩ : ∃ nw, ot + gc = nw := ⟨_, rfl⟩
        rw [hnw] at es HSk
        have k0 : (0 : Int) ≤ (k : Int) := by omega
        have k1 : (k : Int) < (F.length : Int) := by omega
        have hal := (Below.refl wo.heap.size wo).alloc (Nat.le_refl _) (.cells #[.int .i64 (t : Int)] 3)
        have RS := hide (((HRS.out.below B1.out).below hb).below hal)
        have RA := hide (((HRA.out.below B1.out).below hb).below hal)
        have B2 := hide (below_then hb hb.size hal)
        have hcp := hide hcl
        clear hnw hsl hgb hcl hal hb
        go_wp2_with fail
        refine (HPk.out (some ⟨wo.heap.size, 0, none⟩) 1 _ RS.out (row_new _ _ _ rfl)).mono ?_
        rintro e w2 ⟨v2, rfl, o2, b2⟩
        obtain ⟨g2, c2, rfl, _, _, r2, _, _⟩ := own_one o2 (by have := hcp.out; omega)
        have RA2 := hide (RA.out.below b2)
        have B3 := hide (below_then B2.out B2.out.size b2)
        clear o2 b2
        go_wp2_with fail
        refine (HRk.out g2 c2 _ RA2.out r2).mono ?_
        rintro e w3 ⟨rfl, b3⟩
        have B4 := hide (below_then B3.out B3.out.size b3)
        clear b3 r2
        go_wp2_with fail
        exact ⟨⟨k + 1, hlt, by go_num, by rw [HSk.out], B4.out⟩, by simp [intOf]; omega⟩
      · obtain rfl : k = F.length := by omega
        rw [HALL.out]
        generalize sumL G F = r at *
        have B4 := hide (below_then B1.out B1.out.size hb)
        clear hb
        go_wp2_with fail
        go_ret
        exact ⟨rfl, B4.out⟩
/-- What smallOf hands back, and whether the colours are few. -/
def PaintIs (L : List Nat) (b : Bool) (w : World) (e : Ending) (w' : World) : Prop := ∃ A c, e = .returned (.tuple #[.slice A L.length c, .bool b]) ∧ w'.ownsRow w.heap.size 3 1 (.slice A L.length c) L.length (ints (natI L)) ∧ Below w.heap.size w w'
theorem paintOf_no (bc br : Int) (s : ByteArray) (k : Int) (w : World) (h : smallK bc br s.toList = none) : Calls Try.prog 25 #[.int .i64 bc, .int .i64 br, .string s, .int .i64 k] w (Plain (.tuple #[.slice none 0 0, .bool false]) w) := by
  have H := hide (fun w5 => smallOf_no bc br s w5 h)
  clear h
  go_enter Try.func25, Try.ntmps25
  go_wp2_with fail
  refine (H.out _).mono ?_
  rintro e w1 ⟨rfl, b1⟩
  go_wp2_with fail
  go_ret2
  exact ⟨rfl, b1⟩
set_option maxHeartbeats 1000000 in
theorem paintOf_yes (bc br : Int) (s : ByteArray) (k : Int) (w : World) {ss : List (Int × Int)} {far : Bool} (hk : kindL s.toList = some (ss, far)) (hS : Small bc br) :
    Calls Try.prog 25 #[.int .i64 bc, .int .i64 br, .string s, .int .i64 k] w (PaintIs (setsP bc br far ss) (decide (0 ≤ k ∧ k ≤ 4)) w) := by
  have H := hide (fun w5 => smallOf_yes bc br s w5 hk hS)
  clear hk hS
  generalize setsP bc br far ss = L at *
  by_cases h0 : 0 ≤ k
  · by_cases h4 : k ≤ 4
    · rw [show decide (0 ≤ k ∧ k ≤ 4) = true by simp [h0, h4]]
      go_enter Try.func25, Try.ntmps25
      go_wp2_with fail
      refine (H.out _).mono ?_
      rintro e w1 ⟨A1, c1, rfl, o1, b1⟩
      go_wp2_with fail
      go_ret2
      exact ⟨_, _, rfl, o1, b1⟩
    · rw [show decide (0 ≤ k ∧ k ≤ 4) = false by simp [h0, h4]]
      go_enter Try.func25, Try.ntmps25
      go_wp2_with fail
      refine (H.out _).mono ?_
      rintro e w1 ⟨A1, c1, rfl, o1, b1⟩
      go_wp2_with fail
      go_ret2
      exact ⟨A1, c1, by rw [decide_eq_false (show ¬ k ≤ 4 by omega)]; rfl, o1, b1⟩
  · rw [show decide (0 ≤ k ∧ k ≤ 4) = false by simp [h0]]
    go_enter Try.func25, Try.ntmps25
    go_wp2_with fail
    refine (H.out _).mono ?_
    rintro e w1 ⟨A1, c1, rfl, o1, b1⟩
    go_wp2_with fail
    go_ret2
    exact ⟨_, _, rfl, o1, b1⟩
theorem rep_small (i : Nat) : ∀ j : Nat, (List.replicate i 0)[j]?.getD 0 < 512 := fun j => by
  rw [List.getElem?_replicate]
  split <;> simp
set_option maxHeartbeats 1000000 in
theorem implPaintCount_c (bc br : Int) (s : ByteArray) (k : Int) (w : World) : Calls Try.prog 8 #[.int .i64 bc, .int .i64 br, .string s, .int .i64 k] w (Plain (.int .i64 (paintV bc br s.toList k)) w) := by
  cases hsm : smallK bc br s.toList with
  | none =>
    have H := hide (fun w5 => paintOf_no bc br s k w5 hsm)
    rw [show paintV bc br s.toList k = -1 by unfold paintV; rw [hsm]]
    clear hsm
    go_enter Try.func8, Try.ntmps8
    go_wp2_with fail
    refine (H.out _).mono ?_
    rintro e w1 ⟨rfl, b1⟩
    go_wp2_with fail
    go_ret
    exact ⟨rfl, b1⟩
  | some q =>
    obtain ⟨ss, far⟩ := q
    obtain ⟨hS, hkk⟩ := smallK_some hsm
    have H := hide (fun w5 => paintOf_yes bc br s k w5 hkk hS)
    by_cases hk : 0 ≤ k ∧ k ≤ 4
    · rw [paintV_yes hsm hk]
      rw [decide_eq_true hk] at H
      obtain ⟨n, hU⟩ := hue_of hS hkk
      have hlen := hU.len
      obtain ⟨k, rfl⟩ := Int.eq_ofNat_of_zero_le hk.1
      have hk4 : k ≤ 4 := by omega
      have HP := hide (fun A S ca cs w5 h1 h2 h3 => show Calls Try.prog 27 #[.slice A n ca, .int .i64 0, .slice S k cs] w5 (Plain (.int .i64 ((paintsP (setsP bc br far ss) k n [] : Nat) : Int)) w5) by
        have := paintsFrom_c (setsP bc br far ss) n hlen hU.sets n (List.replicate k 0) (Nat.le_refl _) (by simp; omega) (rep_small k) A S ca cs w5 h1 h2 h3
        have h4 := paints_begin (setsP bc br far ss) k
        rw [hlen] at h4
        rw [h4, List.length_replicate, Nat.sub_self] at this
        exact this)
      rw [Int.toNat_natCast, hlen]
      clear hsm hS hkk hU hk
      generalize setsP bc br far ss = L at *
      subst hlen
      generalize paintsP L k L.length [] = r at *
      go_enter Try.func8, Try.ntmps8
      go_wp2_with fail
      refine (H.out _).mono ?_
      rintro e w1 ⟨A1, c1, rfl, o1, b1⟩
      have R1 := hide (own_reads o1)
      have B1 := hide b1
      clear o1 b1
      go_wp2_with fail
      go_loopw [11, 24] (fun v i wr => ∃ j : Nat, j ≤ k ∧ i = .int .i64 (j : Int) ∧ wr.ownsRow w1.heap.size 46 1 v j (ints (natI (List.replicate j 0))) ∧ Below w1.heap.size w1 wr) (fun _ i _ => k - (intOf i).toNat)
      case atStart => exact ⟨0, Nat.zero_le _, rfl, World.ownsRow_nil _ _ _ _, Below.refl _ _⟩
      case round =>
        obtain ⟨j, hj, rfl, hown, hb⟩ := hrel
        obtain ⟨wo, rfl⟩ : ∃ wo : World, wo = wr := ⟨_, rfl⟩
        obtain ⟨A2, c2, rfl, _, _, r2, _⟩ := own_row hown
        have hn0 : A2 = none → List.replicate j 0 = [] := fun e => by
          subst e
          rw [own_none hown]
          rfl
        by_cases hlt : j < k
        · have HPU := hide (show Calls Try.prog 26 #[.slice A2 j c2, .int .i64 (j : Int), .slice none 0 0] wo (Owns 46 1 (j + 1) (ints (natI (List.replicate (j + 1) 0))) wo) by
            have := putPaint_c A2 c2 j (List.replicate j 0) none 0 [] wo r2 hn0 (by simp) (by simp; omega) (rep_small j) (Row.empty _ _) (fun i hi => absurd hi (by simp)) (by simp)
            rw [show orL [] = 0 from rfl, rep_put, List.length_replicate, List.length_replicate] at this
            exact this)
          have B2 := hide hb
          clear hn0 r2 hown hb
          go_wp2_with fail
          refine HPU.out.mono ?_
          rintro e w2 ⟨v2, rfl, o2, b2⟩
          have O2 := hide (own_mono o2 B2.out.size)
          have B3 := hide (below_then B2.out B2.out.size b2)
          clear o2 b2
          go_wp2_with fail
          exact ⟨⟨j + 1, hlt, by go_num, O2.out, B3.out⟩, by simp [intOf]; omega⟩
        · obtain rfl : j = k := by omega
          have RW := hide (R1.out.below hb)
          have B2 := hide (below_then B1.out B1.out.size hb)
          have R2 := hide r2
          have HN := hide hn0
          clear hown hb hn0 r2
          go_wp2_with fail
          refine (HP.out A1 A2 c1 c2 _ RW.out R2.out HN.out).mono ?_
          rintro e w3 ⟨rfl, b3⟩
          have B3 := hide (below_then B2.out B2.out.size b3)
          clear b3
          go_wp2_with fail
          go_ret
          exact ⟨rfl, B3.out⟩
    · rw [show paintV bc br s.toList k = -1 from paintV_no (by rw [hsm, Option.isSome_some, Bool.true_and, decide_eq_false hk])]
      rw [decide_eq_false hk] at H
      clear hsm hS hkk hk
      go_enter Try.func8, Try.ntmps8
      go_wp2_with fail
      refine (H.out _).mono ?_
      rintro e w1 ⟨A1, c1, rfl, o1, b1⟩
      go_wp2_with fail
      go_ret
      exact ⟨rfl, b1⟩
end Go.Proofs.Ytdjkdjnbmhpokab
