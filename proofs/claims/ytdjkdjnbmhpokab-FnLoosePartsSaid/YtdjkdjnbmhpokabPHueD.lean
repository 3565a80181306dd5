
/-
  The program's countParts, loosePartsOf, LooseParts, PaintByParts.
-/
import Derived.Test.YtdjkdjnbmhpokabPHueB
import Derived.Test.YtdjkdjnbmhpokabPHueC
namespace Go.Proofs.Ytdjkdjnbmhpokab
open Go.RowKit
set_option linter.unusedVariables false

theorem gb_trans {a b c : World} {row : Option Nat} (h : a.grownBy b row) (k : b.grownBy c row) : a.grownBy c row := ⟨k.os.trans h.os, k.tape.trans h.tape, k.output.trans h.output, Nat.le_trans h.size k.size, fun i hi hr => (k.block i (Nat.lt_of_lt_of_le hi h.size) hr).trans (h.block i hi hr)⟩
theorem gb_below {w w' : World} (hb : Below w.heap.size w w') (row : Option Nat) : w.grownBy w' row := ⟨hb.os, hb.tape, hb.output, hb.size, fun i hi _ => hb.block i hi⟩
theorem row_off {w : World} {base e size n c g : Nat} {A : Option Addr} {xs : List Value} (h : w.ownsRow base e size (.slice A n c) n xs) (hg : g < base) : ∀ ad, A = some ad → some g ≠ some ad.block := by
  intro ad ea
  obtain ⟨A', c', e', _, _, _, f⟩ := own_row h
  injection e' with e1 _ _
  subst e1
  obtain ⟨g3, rfl, q1, _⟩ := f ad ea
  intro h'
  injection h' with h'
  simp only at h'
  omega
theorem fall_past {k : Nat} : ∀ {p}, k < p → fallP k p = 0
  | 0, h => absurd h (by omega)
  | p + 1, h => by
    show fallP k p * (k - p) = 0
    rw [show k - p = 0 by omega, Nat.mul_zero]
theorem fall_step (k p : Nat) : ((fallP k p : Nat) : Int) * ((k : Int) - (p : Int)) = ((fallP k (p + 1) : Nat) : Int) := by
  show _ = ((fallP k p * (k - p) : Nat) : Int)
  by_cases h : k < p
  · rw [fall_past h]; simp
  · rw [Int.natCast_mul, Int.ofNat_sub (by omega)]
theorem parts_nine (L : List Nat) (q m : Nat) (sets : List Nat) (h : sets.length + m ≤ 9) : partsF L m sets q ≤ 1000000000 :=
  Nat.le_trans (parts_le L q m sets h) (Nat.le_trans (Nat.pow_le_pow_right (by omega) (by omega : m ≤ 9)) (by decide))
theorem put_smallL {p : List Nat} {j x : Nat} (hp : ∀ i : Nat, p[i]?.getD 0 < 512) (hx : x < 512) (hj : j ≤ p.length) (i : Nat) : (putS p j x)[i]?.getD 0 < 512 := by
  by_cases e : j = p.length
  · subst e
    rw [put_new]
    by_cases e2 : i < p.length
    · rw [List.getElem?_append_left e2]; exact hp i
    · by_cases e3 : i = p.length
      · subst e3
        rw [List.getElem?_append_right (Nat.le_refl _), Nat.sub_self]
        simpa using hx
      · rw [List.getElem?_eq_none (by simp; omega)]
        simp
  · exact put_small hp hx (by omega) i
set_option maxHeartbeats 4000000 in
set_option maxRecDepth 100000 in
theorem countParts_c (L : List Nat) (n : Nat) (hlen : L.length = n) (h9 : Sets9 L) : ∀ (m : Nat) (sets : List Nat), m ≤ n → Setts n m sets → (∀ j : Nat, sets[j]?.getD 0 < 512) → ∀ (f : Nat → Nat), (∀ q, f q + partsF L m sets q ≤ 1000000000) →
    ∀ (A S : Option Addr) (ca cs g c B : Nat) (w : World), Row w A (ints (natI L)) → Row w S (ints (natI sets)) → (S = none → sets = []) → (∀ ad, A = some ad → some g ≠ some ad.block) → (∀ ad, S = some ad → some g ≠ some ad.block) →
    w.ownsRow B 3 1 (.slice (some ⟨g, 0, none⟩) (n + 1) c) (n + 1) (ints (natI (mapN (n + 1) f))) →
    Calls Try.prog 49 #[.slice A n ca, .int .i64 ((n - m : Nat) : Int), .slice S sets.length cs, .slice (some ⟨g, 0, none⟩) (n + 1) c] w fun e w' => e = .returned (.tuple #[]) ∧ w'.ownsRow B 3 1 (.slice (some ⟨g, 0, none⟩) (n + 1) c) (n + 1) (ints (natI (mapN (n + 1) (fun q => f q + partsF L m sets q)))) ∧ w.grownBy w' (some g) := by
  have hn9 : n ≤ 9 := by have := h9.len; omega
  intro m
  induction m with
  | zero =>
    intro sets hm hs hp f hf A S ca cs g c B w hrA hrS hS hAg hSg hown
    have heq : (((n - 0 : Nat) : Int) == (n : Int)) = true := by rw [beq_iff_eq]; omega
    have hsl := hs.1
    have hfb := hf sets.length
    have h1 : partsF L 0 sets sets.length = 1 := if_pos rfl
    rw [h1] at hfb
    obtain ⟨u1, u2, u3, u4⟩ := own_natQ hown (k := sets.length) (by omega) (f sets.length + 1)
    rw [mapN_at f (by omega)] at u1
    have hset : (mapN (n + 1) f).set sets.length (f sets.length + 1) = mapN (n + 1) (fun q => f q + partsF L 0 sets q) := by
      have := mapN_set (n := n + 1) (k := sets.length) (f := f) (g := fun q => f q + partsF L 0 sets q) (fun b hb => by
        by_cases e : b = sets.length
        · rw [if_pos e, e]
        · rw [if_neg e]
          show f b + (if b = sets.length then 1 else 0) = f b
          rw [if_neg e, Nat.add_zero])
      rw [← this]
      simp only [h1]
    rw [hset] at u3
    have U3 := hide u3
    have U4 := hide u4
    have s0 : (0 : Int) ≤ (sets.length : Int) := by omega
    have s1 : (sets.length : Int) < ((n + 1 : Nat) : Int) := by omega
    have s2 : (sets.length : Int) < (n : Int) + 1 := by omega
    obtain ⟨x, hx⟩ : ∃ x, f sets.length = x := ⟨_, rfl⟩
    rw [hx] at u1 U3 U4 hfb
    have es : IntKind.i64.wrap ((x : Int) + 1) = ((x + 1 : Nat) : Int) := (IntWalk.i64_in _ (by omega)).trans (by omega)
    obtain ⟨y, hy⟩ : ∃ y, x + 1 = y := ⟨_, rfl⟩
    rw [hy] at es U3 U4
    clear hx hy hset u3 u4 h1 hm hs hp hf hrA hrS hS hAg hSg hown hlen h9
    go_enter Try.func49, Try.ntmps49
    go_wp2_with fail
    (try simp only [Exit.inBlock, Exit.then])
    refine bodyPost_ret (results_none rfl _ _ _) rfl ?_
    exact ⟨rfl, U3.out, U4.out⟩
  | succ m ih =>
    intro sets hm hs hp f hf A S ca cs g c B w hrA hrS hS hAg hSg hown
    obtain ⟨t, ht⟩ : ∃ t, n - (m + 1) = t := ⟨_, rfl⟩
    have ht9 : t < 9 := by omega
    have htn : n - m = t + 1 := by omega
    have hsl := hs.1
    have heq : (((n - (m + 1) : Nat) : Int) == (n : Int)) = false := by rw [beq_eq_false_iff_ne]; omega
    have h2t := two9 ht9
    have hy := h9.bd t
    obtain ⟨adA, rfl, hcA⟩ := hrA.int (k := t) (by rw [natI_len]; omega)
    rw [natI_at] at hcA
    have HFREE := hide (freeLoose_c S cs sets (L[t]?.getD 0) w hrS hp hy (by omega))
    have HPUT := hide (fun (j : Nat) (hj : j ≤ sets.length) (C : Option Addr) (cc : Nat) (w5 : World) (h1 : Row w5 S (ints (natI sets))) (h3 : Row w5 C (ints [(t : Int)])) => show Calls Try.prog 62 #[.slice S sets.length cs, .int .i64 (j : Int), .slice C 1 cc] w5 (Owns 95 1 (putS sets j (2 ^ t)).length (ints (natI (putS sets j (2 ^ t)))) w5) by
      have := putLoose_c S cs j sets C cc [(t : Int)] w5 h1 hS hj (by omega) hp h3 (fun i hi => by
        have : i = 0 := by simpa using hi
        subst this
        simp
        omega) (by simp)
      rw [orL_one] at this
      exact this)
    have HPOS := hide (fun (j : Nat) (hj : j ≤ sets.length) => show 0 < (putS sets j (2 ^ t)).length by
      by_cases e : j = sets.length
      · rw [e, put_new_len]; omega
      · rw [put_len _ (by omega)]; omega)
    have HREC := hide (fun (j : Nat) (hj : j ≤ sets.length) (f' : Nat → Nat) (hf' : ∀ q, f' q + partsF L m (putS sets j (2 ^ t)) q ≤ 1000000000) (g2 c2 : Nat) (w5 : World) (h1 : Row w5 (some adA) (ints (natI L))) (h2 : Row w5 (some ⟨g2, 0, none⟩) (ints (natI (putS sets j (2 ^ t))))) (hne : g ≠ g2) (ho : w5.ownsRow B 3 1 (.slice (some ⟨g, 0, none⟩) (n + 1) c) (n + 1) (ints (natI (mapN (n + 1) f')))) =>
      show Calls Try.prog 49 #[.slice (some adA) n ca, .int .i64 ((t + 1 : Nat) : Int), .slice (some ⟨g2, 0, none⟩) (putS sets j (2 ^ t)).length c2, .slice (some ⟨g, 0, none⟩) (n + 1) c] w5 (fun e w' => e = .returned (.tuple #[]) ∧ w'.ownsRow B 3 1 (.slice (some ⟨g, 0, none⟩) (n + 1) c) (n + 1) (ints (natI (mapN (n + 1) (fun q => f' q + partsF L m (putS sets j (2 ^ t)) q)))) ∧ w5.grownBy w' (some g)) by
      have := ih (putS sets j (2 ^ t)) (by omega) (by rw [← ht]; exact setts_put hs (by omega) hj) (put_smallL hp h2t hj) f' hf' (some adA) (some ⟨g2, 0, none⟩) ca c2 g c B w5 h1 h2 (fun e => by cases e) hAg (fun ad e => by injection e with e; subst e; exact fun h => hne (by injection h)) ho
      rwa [htn] at this)
    have HTOT := hide (fun q => show sumL (fun j => partsF L m (putS sets j (2 ^ t)) q) (freeL sets (L[t]?.getD 0) ++ [sets.length]) = partsF L (m + 1) sets q by
      have := parts_put L m sets q (by rw [hlen]; exact hs) (by omega)
      rwa [hlen, ht] at this)
    have HFL := hide (fun q => show f q + sumL (fun j => partsF L m (putS sets j (2 ^ t)) q) (freeL sets (L[t]?.getD 0) ++ [sets.length]) ≤ 1000000000 by rw [HTOT.out]; exact hf q)
    have hFl : (freeL sets (L[t]?.getD 0)).length ≤ sets.length := free_len _ _ _
    have HLT := hide (fun x (hx : x ∈ freeL sets (L[t]?.getD 0) ++ [sets.length]) => show x ≤ sets.length by
      rcases List.mem_append.1 hx with h | h
      · exact Nat.le_of_lt (free_lt _ _ _ x h)
      · rw [List.mem_singleton.1 h]; exact Nat.le_refl _)
    have HFN := hide (show natI (freeL sets (L[t]?.getD 0) ++ [sets.length]) = natI (freeL sets (L[t]?.getD 0)) ++ [(sets.length : Int)] from natI_snocP _ _)
    have HFK := hide (show (freeL sets (L[t]?.getD 0) ++ [sets.length]).length = (freeL sets (L[t]?.getD 0)).length + 1 by simp)
    generalize freeL sets (L[t]?.getD 0) ++ [sets.length] = F at *
    generalize freeL sets (L[t]?.getD 0) = F0 at *
    obtain ⟨G, hG⟩ : ∃ G : Nat → Nat → Nat, G = fun q j => partsF L m (putS sets j (2 ^ t)) q := ⟨_, rfl⟩
    have HGE := hide (fun q => show (fun j => partsF L m (putS sets j (2 ^ t)) q) = G q by rw [hG])
    have HGX := hide (fun q j => show partsF L m (putS sets j (2 ^ t)) q = G q j by rw [hG])
    simp only [HGX.out] at HREC
    simp only [HGE.out] at HTOT HFL
    obtain ⟨P, hP⟩ : ∃ P : Nat → List Nat, P = fun j => putS sets j (2 ^ t) := ⟨_, rfl⟩
    have HPX := hide (fun j => show putS sets j (2 ^ t) = P j by rw [hP])
    simp only [HPX.out] at HREC HPUT HPOS
    have HSUM := hide (fun q k (h : k < F.length) => sumL_take (G q) F k h)
    have HSLE := hide (fun q k => sumL_le (G q) F k)
    have HALL := hide (fun q => show f q + sumL (G q) (F.take F.length) = f q + partsF L (m + 1) sets q by rw [List.take_length, HTOT.out])
    have H0 := hide (show (fun q => f q + sumL (G q) (F.take 0)) = f from funext fun q => by simp [sumL])
    have HALLF := hide (show (fun q => f q + sumL (G q) (F.take F.length)) = fun q => f q + partsF L (m + 1) sets q from funext HALL.out)
    have HAT := hide (fun k => natI_at F k)
    have HFNL := hide (natI_len F)
    have HF0L := hide (natI_len F0)
    have e1 : IntKind.i64.wrap ((t : Int) + 1) = ((t + 1 : Nat) : Int) := (IntWalk.i64_in _ (by omega)).trans (by omega)
    have t0 : (0 : Int) ≤ (t : Int) := by omega
    have t1 : (t : Int) < (n : Int) := by omega
    rw [ht] at heq ⊢
    rw [← HALLF.out]
    generalize L[t]?.getD 0 = y at *
    have HRA := hide hrA
    have HRS := hide hrS
    have HAG := hide hAg
    have HSG := hide hSg
    have hgw := (hown.lt g rfl).2
    have HOWN := hide hown
    have hf9 : F0.length ≤ 8 := by omega
    have hFl9 : F.length ≤ 9 := by rw [HFK.out]; omega
    have hsl8 : sets.length ≤ 8 := by omega
    clear ih hm ht htn hlen h9 hp hS hrA hrS hG HGE HGX hP HPX HTOT HALL HALLF hs hf hAg hSg hown hFl hsl h2t hy
    go_enter Try.func49, Try.ntmps49
    go_wp2_with fail
    refine HFREE.out.mono ?_
    rintro e w1 ⟨v1, rfl, o1, b1⟩
    have o1a := o1.alloc (.cells #[.int .i64 (sets.length : Int)] 3)
    have b1a := b1.alloc b1.size (.cells #[.int .i64 (sets.length : Int)] 3)
    clear HFREE hcA
    go_wp2_with ((at_builtin; refine put_own rfl (.tmp 26) (.tmp 29) rfl Try.underlying27 elem_int' rfl o1a rfl (m := 1) (news := [.int .i64 (sets.length : Int)]) rfl (row_new _ _ _ rfl) (by simp [Value.oneCell']) (by omega) (by omega) b1a.size ?_
                  intro v2 w2 own2 hg2 ho2
                  have b2 := below_grown b1a b1a.size o1a (Nat.le_refl _) hg2
                  have own2 : w2.ownsRow w.heap.size 3 1 v2 F.length (ints (natI F)) := by rw [HFN.out, HFK.out]; simpa [ints] using own2
                  obtain ⟨A3, c3, rfl, _, _, r3, f3⟩ := own_row own2
                  have R3 := hide r3
                  have B2 := hide b2
                  have HG3 := hide (row_off own2 hgw)
                  clear f3 own2 o1 o1a b1 b1a hg2 ho2 r3 b2))
    go_loopw [32] (fun i wr => ∃ k : Nat, k ≤ F.length ∧ i = .int .i64 (k : Int) ∧ wr.ownsRow B 3 1 (.slice (some ⟨g, 0, none⟩) (n + 1) c) (n + 1) (ints (natI (mapN (n + 1) (fun q => f q + sumL (G q) (F.take k))))) ∧ w2.grownBy wr (some g)) (fun i _ => F.length - (intOf i).toNat)
    case atStart => exact ⟨0, Nat.zero_le _, rfl, by rw [H0.out]; exact own_below HOWN.out B2.out, World.grownBy.refl _ _⟩
    case round =>
      obtain ⟨k, hk, rfl, hown, hgb⟩ := hrel
      obtain ⟨wo, rfl⟩ : ∃ wo : World, wo = wr := ⟨_, rfl⟩
      by_cases hlt : k < F.length
      · have RF := R3.out.grown hgb HG3.out
        obtain ⟨ad1, rfl, hcF⟩ := RF.int (k := k) (by rw [HFNL.out]; exact hlt)
        rw [HAT.out] at hcF
        have hcl := HLT.out _ (mem_at hlt)
        have HSk := hide (fun q => HSUM.out q k hlt)
        generalize F[k]?.getD 0 = j at *
        have HPk := hide (HPUT.out j hcl)
        have hpos := HPOS.out j hcl
        have HRk := hide (HREC.out j hcl (fun q => f q + sumL (G q) (F.take k)) (fun q => by
          have h1 := HSk.out q
          have h2 := HSLE.out q (k + 1)
          have h3 := HFL.out q
          omega))
        have HNX := hide (show (fun q => f q + sumL (G q) (F.take k) + G q j) = fun q => f q + sumL (G q) (F.take (k + 1)) from funext fun q => by rw [HSk.out q, Nat.add_assoc])
        rw [HNX.out] at HRk
        obtain ⟨fn, hfn⟩ : ∃ fn, (fun q => f q + sumL (G q) (F.take (k + 1))) = fn := ⟨_, rfl⟩
        rw [hfn] at HRk
        have HFE := hide hfn
        clear hfn
        generalize (fun q => f q + sumL (G q) (F.take k)) = fo at *
        generalize P j = pj at *
        have k0 : (0 : Int) ≤ (k : Int) := by omega
        have k1 : (k : Int) < (F.length : Int) := by omega
        have hal := (Below.refl wo.heap.size wo).alloc (Nat.le_refl _) (.cells #[.int .i64 (t : Int)] 3)
        have RS := hide (((HRS.out.below B2.out).grown hgb HSG.out).below hal)
        have RA := hide (((HRA.out.below B2.out).grown hgb HAG.out).below hal)
        have OC := hide (own_below hown hal)
        have GB := hide (gb_trans hgb (gb_below hal _))
        have hgo := (hown.lt g rfl).2
        clear hal hgb hown HNX HSk hcl RF
        go_wp2_with fail
        refine (HPk.out (some ⟨wo.heap.size, 0, none⟩) 1 _ RS.out (row_new _ _ _ rfl)).mono ?_
        rintro e w4 ⟨v4, rfl, o4, b4⟩
        obtain ⟨g4, c4, rfl, _, _, r4, hg4, _⟩ := own_one o4 hpos
        have RA2 := hide (RA.out.below b4)
        have OC2 := hide (own_below OC.out b4)
        have GB2 := hide (gb_trans GB.out (gb_below b4 _))
        have hne : g ≠ g4 := by
          have : (wo.alloc (.cells #[.int .i64 (t : Int)] 3)).heap.size = wo.heap.size + 1 := by simp
          omega
        clear o4 b4 hg4
        go_wp2_with fail
        refine (HRk.out g4 c4 _ RA2.out r4 hne OC2.out).mono ?_
        rintro e w5 ⟨rfl, o5, g5⟩
        have O5 := hide o5
        have GB3 := hide (gb_trans GB2.out g5)
        clear o5 g5 r4
        go_wp2_with fail
        exact ⟨⟨k + 1, hlt, by go_num, by rw [HFE.out]; exact O5.out, GB3.out⟩, by simp [intOf]; omega⟩
      · obtain rfl : k = F.length := by omega
        have OW := hide hown
        have GB := hide (gb_trans (gb_below B2.out _) hgb)
        clear hown hgb
        go_wp2_with fail
        go_end0
        exact ⟨rfl, OW.out, GB.out⟩
theorem mapN_zero (n : Nat) : List.replicate n 0 = mapN n (fun _ => 0) := by
  refine List.ext_getElem (by simp [mapN]) fun b h1 h2 => ?_
  simp [mapN]
set_option maxHeartbeats 1000000 in
set_option maxRecDepth 100000 in
theorem loosePartsOf_c (L : List Nat) (n : Nat) (hlen : L.length = n) (h1 : 1 ≤ n) (h9 : Sets9 L) (A : Option Addr) (ca : Nat) (w : World) (hr : Row w A (ints (natI L))) :
    Calls Try.prog 31 #[.slice A n ca] w (Owns 3 1 (n + 1) (ints (natI (mapN (n + 1) (partsF L n [])))) w) := by
  have hn9 : n ≤ 9 := by have := h9.len; omega
  obtain ⟨i0, hi0, hz0, hz1, hz2⟩ := made_info (P := Try.prog) (e := 3) (z := .int .i64 0) (size := 1) (bytes := 8) (by kernel_rfl)
  have hAb : ∀ ad, A = some ad → some w.heap.size ≠ some ad.block := fun ad e h => by
    obtain ⟨ad', e', hc⟩ := hr.int (k := 0) (by rw [natI_len]; omega)
    rw [e] at e'
    injection e' with e'
    subst e'
    have hb := World.block_lt_of_cell? w _ hc
    rw [addr_block] at hb
    injection h with h
    omega
  have HC := hide (fun (c : Nat) (w5 : World) (h2 : Row w5 A (ints (natI L))) (h3 : w5.ownsRow w.heap.size 3 1 (.slice (some ⟨w.heap.size, 0, none⟩) (n + 1) c) (n + 1) (ints (natI (mapN (n + 1) (fun _ => 0))))) =>
    show Calls Try.prog 49 #[.slice A n ca, .int .i64 0, .slice none 0 0, .slice (some ⟨w.heap.size, 0, none⟩) (n + 1) c] w5 (fun e w' => e = .returned (.tuple #[]) ∧ w'.ownsRow w.heap.size 3 1 (.slice (some ⟨w.heap.size, 0, none⟩) (n + 1) c) (n + 1) (ints (natI (mapN (n + 1) (partsF L n [])))) ∧ w5.grownBy w' (some w.heap.size)) by
    have := countParts_c L n hlen h9 n [] (Nat.le_refl _) ⟨by simp, fun i => by simp⟩ (fun j => by simp) (fun _ => 0) (fun q => by rw [Nat.zero_add]; exact parts_nine L q n [] (by simpa using hn9)) A none ca 0 w.heap.size c w.heap.size w5 h2 (Row.empty _ _) (fun _ => rfl) hAb (fun ad e => by cases e) h3
    rw [Nat.sub_self, mapN_congr (g := partsF L n []) (fun b _ => Nat.zero_add _)] at this
    exact this)
  have es : IntKind.i64.wrap ((n : Int) + 1) = ((n + 1 : Nat) : Int) := (IntWalk.i64_in _ (by omega)).trans (by omega)
  have HR := hide hr
  clear hr hAb hlen h9
  generalize mapN (n + 1) (partsF L n []) = l at *
  obtain ⟨q, hq⟩ : ∃ q, n + 1 = q := ⟨_, rfl⟩
  rw [hq] at HC es ⊢
  have hq10 : q ≤ 10 := by omega
  clear hq
  go_enter Try.func31, Try.ntmps31
  go_wp2_with ((at_make; refine wpList_make_full _ rfl (.tmp 6) (.tmp 6) 27 rfl w.heap.size 3 i0 (.int .i64 0) 1 Try.underlying27 hi0 hz0 hz1 .i64 .i64 q q q rfl rfl rfl rfl (by rw [hz2]; omega) (by simp [maxLen]; omega) (Nat.le_refl _) ?_
                intro w4 own4 hg4
                have own4 : w4.ownsRow w.heap.size 3 1 (.slice (some ⟨w.heap.size, 0, none⟩) q q) q (ints (natI (mapN q (fun _ => 0)))) := by
                  have := made_ints rfl own4
                  rw [← mapN_zero]
                  simpa [natI, ints] using this
                have B4 := hide ((Below.refl w.heap.size w).grown hg4 (Nat.le_refl _) (fun k h => by cases h))
                have O4 := hide own4
                clear own4 hg4))
  refine (HC.out q w4 (HR.out.below B4.out) O4.out).mono ?_
  rintro e w5 ⟨rfl, o5, g5⟩
  have B5 := hide (B4.out.grown g5 B4.out.size (fun k h => by injection h with h; omega))
  have O5 := hide o5
  clear o5 g5
  go_wp2_with fail
  go_ret
  exact ⟨_, rfl, O5.out, B5.out⟩
set_option maxHeartbeats 1000000 in
theorem implLooseParts_c (bc br : Int) (s : ByteArray) (w : World) : Calls Try.prog 12 #[.int .i64 bc, .int .i64 br, .string s] w (Owns 3 1 (looseL bc br s.toList).length (ints (natI (looseL bc br s.toList))) w) := by
  cases hsm : smallK bc br s.toList with
  | none =>
    have H := hide (fun w5 => smallOf_no bc br s w5 hsm)
    rw [show looseL bc br s.toList = [] by unfold looseL; rw [hsm]]
    clear hsm
    go_enter Try.func12, Try.ntmps12
    go_wp2_with fail
    refine (H.out _).mono ?_
    rintro e w1 ⟨rfl, b1⟩
    go_wp2_with fail
    go_ret
    exact ⟨_, rfl, World.ownsRow_nil _ _ _ _, b1⟩
  | some q =>
    obtain ⟨ss, far⟩ := q
    obtain ⟨hS, hkk⟩ := smallK_some hsm
    have H := hide (fun w5 => smallOf_yes bc br s w5 hkk hS)
    rw [looseL_yes hsm]
    obtain ⟨n, hU⟩ := hue_of hS hkk
    have hlen := hU.len
    have HP := hide (fun A ca w5 h1 => loosePartsOf_c (setsP bc br far ss) n hlen hU.one hU.sets A ca w5 h1)
    clear hsm hS hkk hU
    generalize setsP bc br far ss = L at *
    subst hlen
    rw [mapN_len]
    generalize mapN (L.length + 1) (partsF L L.length []) = l at *
    go_enter Try.func12, Try.ntmps12
    go_wp2_with fail
    refine (H.out _).mono ?_
    rintro e w1 ⟨A1, c1, rfl, o1, b1⟩
    have R1 := hide (own_reads o1)
    have B1 := hide b1
    clear o1 b1
    go_wp2_with fail
    refine (HP.out A1 c1 _ R1.out).mono ?_
    rintro e w2 ⟨v2, rfl, o2, b2⟩
    have O2 := hide (own_mono o2 B1.out.size)
    have B2 := hide (below_then B1.out B1.out.size b2)
    clear o2 b2
    go_wp2_with fail
    go_ret
    exact ⟨_, rfl, O2.out, B2.out⟩
set_option maxHeartbeats 1000000 in
theorem implPaintByParts_c (bc br : Int) (s : ByteArray) (k : Int) (w : World) : Calls Try.prog 10 #[.int .i64 bc, .int .i64 br, .string s, .int .i64 k] w (Plain (.int .i64 (paintV bc br s.toList k)) w) := by
  cases hsm : smallK bc br s.toList with
  | none =>
    have H := hide (fun w5 => paintOf_no bc br s k w5 hsm)
    rw [show paintV bc br s.toList k = -1 by unfold paintV; rw [hsm]]
    clear hsm
    go_enter Try.func10, Try.ntmps10
    go_wp2_with fail
    refine (H.out _).mono ?_
    rintro e w1 ⟨rfl, b1⟩
    go_wp2_with fail
    go_ret
    exact ⟨rfl, b1⟩
  | some q =>
    obtain ⟨ss, far⟩ := q
    obtain ⟨hS, hkk⟩ := smallK_some hsm
    have H := hide (fun w5 => paintOf_yes bc br s k w5 hkk hS)
    by_cases hk : 0 ≤ k ∧ k ≤ 4
    · rw [paintV_yes hsm hk]
      rw [decide_eq_true hk] at H
      obtain ⟨n, hU⟩ := hue_of hS hkk
      have hlen := hU.len
      have hn9 := hU.nine
      obtain ⟨k, rfl⟩ := Int.eq_ofNat_of_zero_le hk.1
      have hk4 : k ≤ 4 := by omega
      have HP := hide (fun A ca w5 h1 => loosePartsOf_c (setsP bc br far ss) n hlen hU.one hU.sets A ca w5 h1)
      rw [Int.toNat_natCast, paint_all, hlen]
      clear hsm hS hkk hU hk
      generalize setsP bc br far ss = L at *
      have HBL := hide (fun p (hp : p ≤ 10) => byTo_le L hn9 hk4 hp)
      have HBS : Hid (∀ p, byTo L n k (p + 1) = byTo L n k p + partsF L n [] p * fallP k p) := fun p => rfl
      have HPL := hide (fun p => show partsF L n [] p ≤ 1000000000 from parts_nine L p n [] (by simpa using hn9))
      have HFL := hide (fun p (hp : p ≤ 11) => show fallP k p ≤ 24 from fall_small ⟨k, by omega⟩ ⟨p, by omega⟩)
      have HFS := hide (fun p => fall_step k p)
      have HE : Hid (sumN (fun q => partsF L n [] q * fallP k q) (n + 1) = byTo L n k (n + 1)) := rfl
      have HF0 : Hid (fallP k 0 = 1) := rfl
      have HMA := hide (fun p (hp : p < n + 1) => mapN_at (partsF L n []) hp)
      rw [HE.out]
      have HB0 : Hid (byTo L n k 0 = 0) := rfl
      generalize byTo L n k = bT at *
      clear HE
      subst hlen
      go_enter Try.func10, Try.ntmps10
      go_wp2_with fail
      refine (H.out _).mono ?_
      rintro e w1 ⟨A1, c1, rfl, o1, b1⟩
      have R1 := hide (own_reads o1)
      have B1 := hide b1
      clear o1 b1
      go_wp2_with fail
      refine (HP.out A1 c1 _ R1.out).mono ?_
      rintro e w2 ⟨v2, rfl, o2, b2⟩
      obtain ⟨g2, c2, rfl, _, _, _, _, _⟩ := own_one o2 (by omega)
      have O2 := hide o2
      have B2 := hide (below_then B1.out B1.out.size b2)
      clear o2 b2
      go_wp2_with fail
      go_loopw [11, 12, 28] (fun ov wv pv wr => ∃ p : Nat, p ≤ L.length + 1 ∧ pv = .int .i64 (p : Int) ∧ ov = .int .i64 ((bT p : Nat) : Int) ∧ wv = .int .i64 ((fallP k p : Nat) : Int) ∧ w2 = wr) (fun _ _ pv _ => L.length + 1 - (intOf pv).toNat)
      case atStart => exact ⟨0, Nat.zero_le _, rfl, by rw [HB0.out]; rfl, by rw [HF0.out]; rfl, rfl⟩
      case round =>
        obtain ⟨p, hp, rfl, rfl, rfl, rfl⟩ := hrel
        by_cases hlt : p < L.length + 1
        · obtain ⟨u1, _, _, _⟩ := own_natQ O2.out hlt 0
          rw [HMA.out p hlt] at u1
          have k0 : (0 : Int) ≤ (p : Int) := by omega
          have k1 : (p : Int) < ((L.length + 1 : Nat) : Int) := by omega
          have k2 : (p : Int) < (L.length : Int) + 1 := by omega
          have hb1 := HBL.out p (by omega)
          have hp1 := HPL.out p
          have hf1 := HFL.out p (by omega)
          have hf2 := HFL.out (p + 1) (by omega)
          have HBp := hide (HBS.out p)
          have hfs := HFS.out p
          have hmul : partsF L L.length [] p * fallP k p ≤ 1000000000 * 24 := Nat.mul_le_mul hp1 hf1
          have em : IntKind.i64.wrap (((partsF L L.length [] p : Nat) : Int) * ((fallP k p : Nat) : Int)) = ((partsF L L.length [] p * fallP k p : Nat) : Int) := (IntWalk.i64_in _ (by rw [← Int.natCast_mul]; omega)).trans (Int.natCast_mul _ _).symm
          have em2 : IntKind.i64.wrap (((fallP k p : Nat) : Int) * ((k : Int) - (p : Int))) = ((fallP k (p + 1) : Nat) : Int) := (IntWalk.i64_in _ (by rw [hfs]; omega)).trans hfs
          have ed : IntKind.i64.wrap ((k : Int) - (p : Int)) = (k : Int) - (p : Int) := IntWalk.i64_in _ (by omega)
          generalize partsF L L.length [] p * fallP k p = mu at *
          generalize partsF L L.length [] p = pa at *
          obtain ⟨fb, hfb⟩ : ∃ fb, fallP k (p + 1) = fb := ⟨_, rfl⟩
          rw [hfb] at em2 hf2
          have HFB := hide hfb
          generalize fallP k p = fa at *
          generalize bT p = ot at *
          have es : IntKind.i64.wrap ((ot : Int) + (mu : Int)) = ((ot + mu : Nat) : Int) := (IntWalk.i64_in _ (by omega)).trans (by omega)
          obtain ⟨nw, hnw⟩ : ∃ nw, ot + mu = nw := ⟨_, rfl⟩
          rw [hnw] at es HBp
          clear hb1 hp1 hf1 hf2 hmul hnw hfs hfb
          go_wp2_with fail
          exact ⟨⟨p + 1, hlt, by go_num, by rw [HBp.out], by rw [HFB.out], trivial⟩, by simp [intOf]; omega⟩
        · obtain rfl : p = L.length + 1 := by omega
          generalize bT (L.length + 1) = r at *
          go_wp2_with fail
          go_ret
          exact ⟨rfl, B2.out⟩
    · rw [show paintV bc br s.toList k = -1 from paintV_no (by rw [hsm, Option.isSome_some, Bool.true_and, decide_eq_false hk])]
      rw [decide_eq_false hk] at H
      clear hsm hS hkk hk
      go_enter Try.func10, Try.ntmps10
      go_wp2_with fail
      refine (H.out _).mono ?_
      rintro e w1 ⟨A1, c1, rfl, o1, b1⟩
      go_wp2_with fail
      go_ret
      exact ⟨rfl, b1⟩
end Go.Proofs.Ytdjkdjnbmhpokab
