
/-
  Colours: the model's parts.
-/
import Derived.Test.YtdjkdjnbmhpokabPaintA
import Derived.Test.YtdjkdjnbmhpokabGuardB
import Derived.StillTailTactics
import Derived.OwnWalk
namespace Go.Proofs.Ytdjkdjnbmhpokab
open Go.RowKit
set_option linter.unusedVariables false

def mapN (n : Nat) (f : Nat → Nat) : List Nat := (List.range n).map f
theorem mapN_len (n : Nat) (f : Nat → Nat) : (mapN n f).length = n := by simp [mapN]
theorem mapN_at {n k : Nat} (f : Nat → Nat) (h : k < n) : (mapN n f)[k]?.getD 0 = f k := by simp [mapN, h]
theorem mapN_congr {n : Nat} {f g : Nat → Nat} (h : ∀ b, b < n → f b = g b) : mapN n f = mapN n g := List.map_congr_left fun b hb => h b (List.mem_range.1 hb)
theorem mapN_set {n k : Nat} {f g : Nat → Nat} (h : ∀ b, b < n → g b = if b = k then g k else f b) : (mapN n f).set k (g k) = mapN n g := by
  refine List.ext_getElem (by simp [mapN]) fun b h1 h2 => ?_
  have hb : b < n := by simpa [mapN] using h2
  rw [List.getElem_set]
  have := h b hb
  by_cases e : k = b
  · subst e; simp [mapN]
  · rw [if_neg (fun h' => e h'.symm)] at this
    simp [mapN, e, this]
/-- The sum ahead of set i. -/
def accP (L : List Nat) (m : Nat) (sets : List Nat) (i q : Nat) : Nat :=
  partsF L m (sets ++ [2 ^ (L.length - (m + 1))]) q + sumN (fun j => if L[L.length - (m + 1)]?.getD 0 &&& sets[j]?.getD 0 = 0 then partsF L m (sets.set j (sets[j]?.getD 0 + 2 ^ (L.length - (m + 1)))) q else 0) i
theorem acc_all (L : List Nat) (m : Nat) (sets : List Nat) (q : Nat) : accP L m sets sets.length q = partsF L (m + 1) sets q := rfl
theorem parts_le (L : List Nat) (q : Nat) : ∀ m sets, sets.length + m ≤ 9 → partsF L m sets q ≤ 10 ^ m
  | 0, sets, h => by
    show (if q = sets.length then 1 else 0) ≤ 1
    split <;> omega
  | m + 1, sets, h => by
    have h1 := parts_le L q m (sets ++ [2 ^ (L.length - (m + 1))]) (by simp; omega)
    have h2 := sumN_le (f := fun i => if L[L.length - (m + 1)]?.getD 0 &&& sets[i]?.getD 0 = 0 then partsF L m (sets.set i (sets[i]?.getD 0 + 2 ^ (L.length - (m + 1)))) q else 0) (B := 10 ^ m) (n := sets.length) (fun i hi => by
      split
      · exact parts_le L q m _ (by simp; omega)
      · omega)
    have h3 : sets.length * 10 ^ m ≤ 8 * 10 ^ m := Nat.mul_le_mul_right _ (by omega)
    unfold partsF
    rw [Nat.pow_succ]
    omega
theorem acc_mono (L : List Nat) (m : Nat) (sets : List Nat) (q : Nat) : ∀ {i j}, i ≤ j → accP L m sets i q ≤ accP L m sets j q
  | i, 0, h => by rw [show i = 0 by omega]; exact Nat.le_refl _
  | i, j + 1, h => by
    by_cases e : i = j + 1
    · rw [e]; exact Nat.le_refl _
    · have := acc_mono L m sets q (i := i) (j := j) (by omega)
      have h2 : accP L m sets (j + 1) q = accP L m sets j q + if L[L.length - (m + 1)]?.getD 0 &&& sets[j]?.getD 0 = 0 then partsF L m (sets.set j (sets[j]?.getD 0 + 2 ^ (L.length - (m + 1)))) q else 0 := by
        unfold accP
        rw [Nat.add_assoc]
        rfl
      omega
theorem acc_le (L : List Nat) (m : Nat) (sets : List Nat) (q : Nat) {i : Nat} (h : sets.length + (m + 1) ≤ 9) (hi : i ≤ sets.length) : accP L m sets i q ≤ 1000000000 :=
  Nat.le_trans (acc_mono L m sets q hi) (Nat.le_trans (parts_le L q (m + 1) sets h) (Nat.le_trans (Nat.pow_le_pow_right (by omega) (by omega : m + 1 ≤ 9)) (by decide)))
/-- Behind number k of what set i adds. -/
def mixP (L : List Nat) (m : Nat) (sets : List Nat) (i k q : Nat) : Nat := if q < k then accP L m sets (i + 1) q else accP L m sets i q
/-- What the sets are. -/
def Setts (n m : Nat) (sets : List Nat) : Prop := sets.length + m ≤ n ∧ ∀ i : Nat, sets[i]?.getD 0 < 2 ^ (n - m)
theorem setts_new {n m : Nat} {sets : List Nat} (h : Setts n (m + 1) sets) (hm : m + 1 ≤ n) : Setts n m (sets ++ [2 ^ (n - (m + 1))]) := by
  refine ⟨by have := h.1; simp; omega, fun i => ?_⟩
  have hp : 2 ^ (n - m) = 2 * 2 ^ (n - (m + 1)) := by rw [show n - m = (n - (m + 1)) + 1 by omega, Nat.pow_succ, Nat.mul_comm]
  have h0 : 0 < 2 ^ (n - (m + 1)) := Nat.pow_pos (by omega)
  by_cases e : i < sets.length
  · rw [List.getElem?_append_left e]
    have := h.2 i
    omega
  · by_cases e2 : i = sets.length
    · subst e2
      rw [List.getElem?_append_right (Nat.le_refl _)]
      simp
      omega
    · rw [List.getElem?_eq_none (by simp; omega)]
      simp only [Option.getD_none]
      omega
theorem setts_set {n m i : Nat} {sets : List Nat} (h : Setts n (m + 1) sets) (hm : m + 1 ≤ n) (hi : i < sets.length) : Setts n m (sets.set i (sets[i]?.getD 0 + 2 ^ (n - (m + 1)))) := by
  refine ⟨by have := h.1; simp; omega, fun j => ?_⟩
  have hp : 2 ^ (n - m) = 2 * 2 ^ (n - (m + 1)) := by rw [show n - m = (n - (m + 1)) + 1 by omega, Nat.pow_succ, Nat.mul_comm]
  have h1 := h.2 i
  have h2 := h.2 j
  by_cases e : j = i
  · subst e
    rw [List.getElem?_set_self hi, Option.getD_some]
    omega
  · rw [List.getElem?_set_ne (fun h' => e h'.symm)]
    omega
theorem natI_set (l : List Nat) (i x : Nat) : natI (l.set i x) = (natI l).set i (x : Int) := by simp [natI, List.map_set]
theorem own_natQ {W : World} {base g n c : Nat} {L : List Nat} (h : W.ownsRow base 3 1 (.slice (some ⟨g, 0, none⟩) n c) n (ints (natI L))) {k : Nat} (hk : k < n) (b : Nat) :
    W.cell? ⟨g, k, none⟩ = some (.int .i64 ((L[k]?.getD 0 : Nat) : Int)) ∧ W.frozen? ⟨g, k, none⟩ = false ∧ (W.setCell ⟨g, k, none⟩ (.int .i64 (b : Int))).ownsRow base 3 1 (.slice (some ⟨g, 0, none⟩) n c) n (ints (natI (L.set k b))) ∧ W.grownBy (W.setCell ⟨g, k, none⟩ (.int .i64 (b : Int))) (some g) := by
  have hl : L.length = n := by have := h.1; simpa [natI] using this
  have hc := h.cellAt k (by omega)
  obtain ⟨o, gr⟩ := h.stored k (.int .i64 (b : Int))
  refine ⟨?_, h.frozenAt k, ?_, gr⟩
  · rw [hc]; simp [natI, List.getElem?_eq_getElem (show k < L.length by omega)]
  · rw [show (ints (natI L)).set k (.int .i64 (b : Int)) = ints ((natI L).set k (b : Int)) by simp [ints, List.map_set], ← natI_set] at o
    exact o
set_option maxHeartbeats 4000000 in
set_option maxRecDepth 100000 in
theorem parts_c (L : List Nat) (n : Nat) (hlen : L.length = n) (h9 : Sets9 L) : ∀ (m : Nat) (sets : List Nat), m ≤ n → Setts n m sets → ∀ (A S : Option Addr) (ca cs : Nat) (w : World), Row w A (ints (natI L)) → Row w S (ints (natI sets)) →
    Calls Try.prog 33 #[.slice A n ca, .slice S sets.length cs, .int .i64 ((n - m : Nat) : Int)] w (Owns 3 1 (sets.length + m + 1) (ints (natI (mapN (sets.length + m + 1) (partsF L m sets)))) w) := by
  have hn9 : n ≤ 9 := by have := h9.len; omega
  intro m
  induction m with
  | zero =>
    intro sets hm hs A S ca cs w hrA hrS
    have heq : (((n - 0 : Nat) : Int) == (n : Int)) = true := by rw [beq_iff_eq]; omega
    have hsl : sets.length ≤ 9 := by have := hs.1; omega
    obtain ⟨i0, hi0, hz0, hz1, hz2⟩ : ∃ i, Try.prog.info? 3 = some i ∧ i.zero = some (.int .i64 0) ∧ i.size = 1 ∧ i.bytes = 8 := by
      have h : (Try.prog.info? 3).map (fun i => (i.zero, i.size, i.bytes)) = some (some (.int .i64 0), 1, 8) := by kernel_rfl
      cases hi : Try.prog.info? 3 with
      | none => simp [hi] at h
      | some i =>
        simp only [hi, Option.map_some, Option.some.injEq, Prod.mk.injEq] at h
        exact ⟨i, rfl, h.1, h.2.1, h.2.2⟩
    have HM : Hid ((List.replicate (sets.length + 1) 0).set sets.length 1 = mapN (sets.length + 1) (partsF L 0 sets)) := by
      have hz : List.replicate (sets.length + 1) 0 = mapN (sets.length + 1) (fun _ => 0) := by
        refine List.ext_getElem (by simp [mapN]) fun b h1 h2 => ?_
        simp [mapN]
      have h1 : partsF L 0 sets sets.length = 1 := if_pos rfl
      have := mapN_set (n := sets.length + 1) (k := sets.length) (f := fun _ => 0) (g := partsF L 0 sets) (fun b hb => by
        by_cases e : b = sets.length
        · subst e; rw [if_pos rfl]
        · rw [if_neg e]; exact if_neg e)
      show _ = _
      rw [hz, ← this, h1]
    have es : IntKind.i64.wrap ((sets.length : Int) + 1) = ((sets.length + 1 : Nat) : Int) := (IntWalk.i64_in _ (by omega)).trans (by omega)
    have s0 : (0 : Int) ≤ (sets.length : Int) := by omega
    have s1 : (sets.length : Int) < ((sets.length + 1 : Nat) : Int) := by omega
    clear hm hs hrA hrS h9 hlen
    obtain ⟨q, hq⟩ : ∃ q, sets.length + 1 = q := ⟨_, rfl⟩
    have hql : sets.length < q := by omega
    rw [show sets.length + 0 + 1 = q by omega]
    rw [hq] at HM es s1
    go_enter Try.func33, Try.ntmps33
    go_wp2_with ((at_make; refine wpList_make_full _ rfl (.tmp 19) (.tmp 19) 27 rfl w.heap.size 3 i0 (.int .i64 0) 1 Try.underlying27 hi0 hz0 hz1 .i64 .i64 q q q rfl rfl rfl rfl (by rw [hz2]; omega) (by simp [maxLen]; omega) (Nat.le_refl _) ?_; intro w4 own4 hg4; have own4 : w4.ownsRow w.heap.size 3 1 (.slice (some ⟨w.heap.size, 0, none⟩) q q) q (ints (natI (List.replicate q 0))) := (by have := own4; rw [show (Value.int .i64 0).cells = #[.int .i64 0] from rfl, Nat.mul_one, toList_madeCells_one] at this; simpa [natI, ints] using this); have b4 := (Below.refl w.heap.size w).grown hg4 (Nat.le_refl _) (fun k h => by cases h); obtain ⟨q1, q2, q3, q4⟩ := own_natQ own4 hql 1; rw [HM.out] at q3; have Q3 := hide q3; have B5 := hide (b4.grown q4 b4.size (fun z h => by injection h with h; omega)); clear own4 hg4 b4 q3 q4))
    go_ret
    exact ⟨_, rfl, Q3.out, B5.out⟩
  | succ m ih =>
    intro sets hm hs A S ca cs w hrA hrS
    have hsl : sets.length + (m + 1) ≤ 9 := by have := hs.1; omega
    obtain ⟨t, ht⟩ : ∃ t, n - (m + 1) = t := ⟨_, rfl⟩
    have ht9 : t < 9 := by omega
    have htn : n - m = t + 1 := by omega
    have heq : (((n - (m + 1) : Nat) : Int) == (n : Int)) = false := by rw [beq_eq_false_iff_ne]; omega
    have hp512 : ∀ i : Nat, sets[i]?.getD 0 < 512 := fun i => Nat.lt_of_lt_of_le (hs.2 i) (Nat.pow_le_pow_right (by omega) (by omega : n - (m + 1) ≤ 9))
    have hp2 : ∀ i : Nat, sets[i]?.getD 0 < 2 ^ t := fun i => by rw [← ht]; exact hs.2 i
    have hpt : 2 ^ t ≤ 256 := Nat.le_trans (Nat.pow_le_pow_right (by omega) (by omega : t ≤ 8)) (by decide)
    have HI0 := hide (fun (A' S' : Option Addr) (ca' cs' : Nat) (w5 : World) (h1 : Row w5 A' (ints (natI L))) (h2 : Row w5 S' (ints (natI (sets ++ [2 ^ t])))) => show Calls Try.prog 33 #[.slice A' n ca', .slice S' (sets.length + 1) cs', .int .i64 ((t + 1 : Nat) : Int)] w5 (Owns 3 1 (sets.length + 1 + m + 1) (ints (natI (mapN (sets.length + 1 + m + 1) (partsF L m (sets ++ [2 ^ t]))))) w5) by
      have := ih (sets ++ [2 ^ t]) (by omega) (by rw [← ht]; exact setts_new hs hm) A' S' ca' cs' w5 h1 h2
      rwa [List.length_append, htn] at this)
    have HI1 := hide (fun (i : Nat) (hi : i < sets.length) (A' S' : Option Addr) (ca' cs' : Nat) (w5 : World) (h1 : Row w5 A' (ints (natI L))) (h2 : Row w5 S' (ints (natI (sets.set i (sets[i]?.getD 0 + 2 ^ t))))) => show Calls Try.prog 33 #[.slice A' n ca', .slice S' sets.length cs', .int .i64 ((t + 1 : Nat) : Int)] w5 (Owns 3 1 (sets.length + m + 1) (ints (natI (mapN (sets.length + m + 1) (partsF L m (sets.set i (sets[i]?.getD 0 + 2 ^ t)))))) w5) by
      have := ih (sets.set i (sets[i]?.getD 0 + 2 ^ t)) (by omega) (by rw [← ht]; exact setts_set hs hm hi) A' S' ca' cs' w5 h1 h2
      rwa [List.length_set, htn] at this)
    have HPW := hide (fun w5 => specPower9_c t (by omega) w5)
    have HA0 := hide (show mapN (sets.length + 1 + m + 1) (partsF L m (sets ++ [2 ^ t])) = mapN (sets.length + 1 + m + 1) (accP L m sets 0) from mapN_congr fun b _ => by
      unfold accP
      rw [hlen, ht]
      rfl)
    have HAE := hide (show mapN (sets.length + 1 + m + 1) (accP L m sets sets.length) = mapN (sets.length + (m + 1) + 1) (partsF L (m + 1) sets) by
      rw [show sets.length + 1 + m + 1 = sets.length + (m + 1) + 1 by omega]
      exact mapN_congr fun b _ => acc_all L m sets b)
    have HAS := hide (fun i q => show accP L m sets (i + 1) q = accP L m sets i q + if L[t]?.getD 0 &&& sets[i]?.getD 0 = 0 then partsF L m (sets.set i (sets[i]?.getD 0 + 2 ^ t)) q else 0 by
      unfold accP
      rw [hlen, ht, Nat.add_assoc]
      rfl)
    have HAL := hide (fun i q (hi : i ≤ sets.length) => acc_le L m sets q hsl hi)
    have HMO := hide (fun i (hi : i < sets.length) => show partsF L m (sets.set i (sets[i]?.getD 0 + 2 ^ t)) (sets.length + m + 1) = 0 by
      rw [parts_most L m _ _ (by simp), if_neg (by simp)])
    have HPL := hide (fun i q (hi : i < sets.length) => show partsF L m (sets.set i (sets[i]?.getD 0 + 2 ^ t)) q ≤ 1000000000 from Nat.le_trans (parts_le L q m _ (by simp; omega)) (Nat.le_trans (Nat.pow_le_pow_right (by omega) (by omega : m ≤ 9)) (by decide)))
    obtain ⟨adA, rfl, hcA⟩ := hrA.int (k := t) (by rw [natI_len]; omega)
    rw [natI_at] at hcA
    have hy := h9.bd t
    have HRA := hide hrA
    have HRS := hide hrS
    have HLS := hide (natI_len sets)
    have HP5 := hide hp512
    have HP2 := hide hp2
    rw [ht] at heq ⊢
    have e1 : IntKind.i64.wrap ((t : Int) + 1) = ((t + 1 : Nat) : Int) := (IntWalk.i64_in _ (by omega)).trans (by omega)
    have t0 : (0 : Int) ≤ (t : Int) := by omega
    have t1 : (t : Int) < (n : Int) := by omega
    rw [show sets.length + (m + 1) + 1 = sets.length + 1 + m + 1 by omega] at HAE ⊢
    obtain ⟨N, hN⟩ : ∃ N, sets.length + 1 + m + 1 = N := ⟨_, rfl⟩
    have hlN : sets.length + m + 1 + 1 = N := by omega
    have hlN' : N ≤ 11 := by omega
    obtain ⟨y, hyy⟩ : ∃ y, L[t]?.getD 0 = y := ⟨_, rfl⟩
    rw [hyy] at hcA hy
    simp only [hyy] at HAS
    rw [hN] at HI0 HA0 HAE ⊢
    obtain ⟨K, hK⟩ : ∃ K, sets.length + m + 1 = K := ⟨_, rfl⟩
    simp only [hK] at HI1 HMO
    have hKN : K + 1 = N := by omega
    have hK1 : 1 ≤ K := by omega
    obtain ⟨P, hP⟩ : ∃ P, 2 ^ t = P := ⟨_, rfl⟩
    rw [hP] at HPW HI0 HA0 hpt
    simp only [hP] at HI1 HAS HMO HPL HP2
    clear hP
    have HST := hide (And.intro hs.1 (And.intro hm ht))
    have hsl9 : sets.length ≤ 9 := by omega
    have oe := World.ownsRow_made (base := w.heap.size) (e := 3) (size := 1) w #[] 0 (Nat.le_refl _) (by simp [maxLen]) rfl
    have hbA := (Below.refl w.heap.size w).alloc (Nat.le_refl _) (.cells #[] 3)
    have hrS1 := hrS.below hbA
    clear ih hm hs ht htn hlen h9 hyy hN hK hlN hrA hrS hp512 hp2 hsl HST
    go_enter Try.func33, Try.ntmps33
    go_wp2_with (first
      | (at_builtin; refine put_own rfl (.tmp 27) (.tmp 28) rfl Try.underlying27 elem_int' rfl oe rfl (m := sets.length) (news := ints (natI sets)) (by simp [HLS.out]) hrS1 (one_ints _) (by omega) (by omega) hbA.size ?_
         intro v2 w2 own2 hg2 ho2
         have b2 := below_grown hbA hbA.size oe (Nat.le_refl _) hg2
         have own2 : w2.ownsRow w.heap.size 3 1 v2 sets.length (ints (natI sets)) := by simpa using own2))
    refine (HPW.out _).mono ?_
    rintro e w3 ⟨rfl, rfl⟩
    have own2a := own2.alloc (.cells #[.int .i64 (P : Int)] 3)
    have b2a := b2.alloc b2.size (.cells #[.int .i64 (P : Int)] 3)
    go_wp2_with ((at_builtin; refine put_own rfl (.tmp 29) (.tmp 32) rfl Try.underlying27 elem_int' rfl own2a rfl (m := 1) (news := [.int .i64 (P : Int)]) rfl (row_new _ _ _ rfl) (by simp [Value.oneCell']) (by omega) (by omega) b2a.size ?_
                  intro v4 w4 own4 hg4 ho4
                  have b4 := below_grown b2a b2a.size own2a (Nat.le_refl _) hg4
                  have own4 : w4.ownsRow w.heap.size 3 1 v4 (sets.length + 1) (ints (natI (sets ++ [P]))) := by rw [natI_snocP]; simpa [ints] using own4
                  obtain ⟨A4, c4, rfl, _, _, r4, _⟩ := own_row own4))
    refine (HI0.out _ _ _ _ _ (HRA.out.below b4) r4).mono ?_
    rintro e w5 ⟨v5, rfl, o5, b5⟩
    obtain ⟨g5, c5, rfl, _, _, _, hg5, hs5⟩ := own_one o5 (by omega)
    rw [HA0.out] at o5
    have O5 := hide (own_mono o5 b4.size)
    have B5 := hide (below_then b4 b4.size b5)
    have hgw : w.heap.size ≤ g5 := Nat.le_trans b4.size hg5
    clear own2 own2a b2 b2a own4 r4 b4 b5 o5 oe hbA hrS1 hg2 hg4 ho2 ho4 hg5 hs5
    go_wp2_with fail
    go_loopw [8, 9] (fun v i wr => ∃ k : Nat, k ≤ sets.length ∧ i = .int .i64 (k : Int) ∧ v = .slice (some ⟨g5, 0, none⟩) N c5 ∧ wr.ownsRow w.heap.size 3 1 (.slice (some ⟨g5, 0, none⟩) N c5) N (ints (natI (mapN N (accP L m sets k)))) ∧ Below w.heap.size w wr) (fun _ i _ => sets.length - (intOf i).toNat)
    case atStart => exact ⟨0, Nat.zero_le _, rfl, rfl, O5.out, B5.out⟩
    case round =>
      clear O5 B5
      obtain ⟨i, hi, rfl, rfl, hown, hb⟩ := hrel
      obtain ⟨wo, rfl⟩ : ∃ wo : World, wo = wr := ⟨_, rfl⟩
      have zo := hb.size
      by_cases hlt : i < sets.length
      · obtain ⟨adS, rfl, hcS⟩ := (HRS.out.below hb).int (k := i) (by rw [HLS.out]; exact hlt)
        rw [natI_at] at hcS
        have hcA' := (hb.cell (p := adA.add t) (World.block_lt_of_cell? w _ hcA)).trans hcA
        have hx5 := HP5.out i
        have hx2 := HP2.out i
        have HASi := hide (fun q => HAS.out i q)
        have HI1i := hide (HI1.out i hlt)
        have HMi := hide (HMO.out i hlt)
        have HPi := hide (fun q => HPL.out i q hlt)
        obtain ⟨x, hx⟩ : ∃ x, sets[i]?.getD 0 = x := ⟨_, rfl⟩
        rw [hx] at hcS hx5 hx2 HI1i HMi
        simp only [hx] at HASi HPi
        obtain ⟨ea, hz5⟩ := i64_and9 y x hy hx5
        have i0' : (0 : Int) ≤ (i : Int) := by omega
        have i1 : (i : Int) < (sets.length : Int) := by omega
        obtain ⟨z, hz⟩ : ∃ z, y &&& x = z := ⟨_, rfl⟩
        rw [hz] at ea hz5
        simp only [hz] at HASi
        have OW := hide hown
        have HB := hide hb
        have HX := hide hx
        clear hown hb hx hz
        by_cases hz0 : z = 0
        · subst hz0
          have hzn : (((0 : Nat) : Int) != 0) = false := by simp
          obtain ⟨p, hp⟩ : ∃ p, partsF L m (sets.set i (x + P)) = p := ⟨_, rfl⟩
          rw [hp] at HI1i HMi
          simp only [hp] at HASi HPi
          have HE1 := hide (fun q => show accP L m sets (i + 1) q = accP L m sets i q + p q by simpa using HASi.out q)
          have HM0 := hide (show mapN N (accP L m sets i) = mapN N (mixP L m sets i 0) from mapN_congr fun q _ => by simp [mixP])
          have HMK := hide (show mapN N (mixP L m sets i K) = mapN N (accP L m sets (i + 1)) from mapN_congr fun q hq => by
            unfold mixP
            split
            · rfl
            · rw [HE1.out q, show q = K by omega, HMi.out, Nat.add_zero])
          have HMS := hide (fun k => show (mapN N (mixP L m sets i k)).set k (mixP L m sets i (k + 1) k) = mapN N (mixP L m sets i (k + 1)) from mapN_set fun q _ => by
            unfold mixP
            by_cases e : q = k
            · subst e; simp
            · by_cases e2 : q < k
              · simp [e, e2, show q < k + 1 by omega]
              · simp [e, e2, show ¬ q < k + 1 by omega])
          have HMV := hide (fun k => show mixP L m sets i (k + 1) k = accP L m sets i k + p k by
            unfold mixP
            rw [if_pos (by omega)]
            exact HE1.out k)
          have HMC := hide (fun k => show mixP L m sets i k k = accP L m sets i k from if_neg (by omega))
          have HBD := hide (fun k => HAL.out i k hi)
          have HBP := hide HPi.out
          have es : IntKind.i64.wrap ((x : Int) + (P : Int)) = ((x + P : Nat) : Int) := (IntWalk.i64_in _ (by omega)).trans (by omega)
          clear HASi HPi hp
          go_wp2_with fail
          go_region
          have hod := hide OW.out.drew
          have hbd := hide HB.out.drew
          have hSd := hide (HRS.out.below HB.out).drew
          have hAd := hide (HRA.out.below HB.out).drew
          clear OW HB hcS hcA'
          generalize wo.drew = wd at *
          have oe := World.ownsRow_made (base := wd.heap.size) (e := 3) (size := 1) wd #[] 0 (Nat.le_refl _) (by simp [maxLen]) rfl
          have hbA := (Below.refl wd.heap.size wd).alloc (Nat.le_refl _) (.cells #[] 3)
          have hrS1 := hSd.out.below hbA
          go_wp2_with (first
            | (at_builtin; refine put_own rfl (.tmp 53) (.tmp 54) rfl Try.underlying27 elem_int' rfl oe rfl (m := sets.length) (news := ints (natI sets)) (by simp [HLS.out]) hrS1 (one_ints _) (by omega) (by omega) hbA.size ?_
               intro v2 w2 own2 hg2 ho2
               have b2 := below_grown hbA hbA.size oe (Nat.le_refl _) hg2
               have own2 : w2.ownsRow wd.heap.size 3 1 v2 sets.length (ints (natI sets)) := by simpa using own2
               obtain ⟨g2, c2, rfl, _, _, _, hgb2, _⟩ := own_one own2 (by omega)
               obtain ⟨q1, q2, _, _⟩ := own_natQ own2 hlt 0
               rw [HX.out] at q1
               have HO2 := hide own2
               have B2 := hide b2
               clear own2 b2 hg2 ho2 oe hbA hrS1))
          refine wp_region_still_tail 10 (by kernel_rfl) (by kernel_rfl) ?_
          simp only [List.take_succ_cons, List.take_zero, List.drop_succ_cons, List.drop_zero]
          repeat still_step
          still_call ((HPW.out _).mono (fun _ _ h => ⟨h.1, h.2.symm⟩))
          repeat still_step
          try refine wpStill_nil ?_
          have q1d : w2.drew.cell? ⟨g2, i, none⟩ = some (.int .i64 (x : Int)) := q1
          have q2d : w2.drew.frozen? ⟨g2, i, none⟩ = false := q2
          have HO2d := hide HO2.out.drew
          have B2d := hide B2.out.drew
          change wpList _ _ _ _ _ w2.drew
          clear HO2 B2 q1 q2
          generalize w2.drew = w3 at *
          obtain ⟨_, _, o3, g3⟩ := own_natQ HO2d.out hlt (x + P)
          have b3 := B2d.out.grown g3 B2d.out.size (fun z h => by injection h with h; omega)
          have R3 := hide (own_reads o3)
          have B3 := hide b3
          have HI2 := hide (HI1i.out (some adA) (some ⟨g2, 0, none⟩) ca c2 _ (hAd.out.below b3) (own_reads o3))
          clear o3 g3 b3 HO2d B2d
          go_wp2_with fail
          refine HI2.out.mono ?_
          rintro e w6 ⟨v6, rfl, o6, b6⟩
          obtain ⟨g6, c6, rfl, _, _, _, hg6, _⟩ := own_one o6 (by omega)
          have hg5' : g5 < wd.heap.size := (hod.out.lt _ rfl).2
          have hne : g6 ≠ g5 := by have := B3.out.size; omega
          have O6 := hide (own_mono o6 (show w.heap.size ≤ _ from Nat.le_trans (Nat.le_trans hbd.out.size B3.out.size) (Nat.le_refl _)))
          have bd6 := below_then B3.out B3.out.size b6
          have OW6 := hide (own_below hod.out bd6)
          have HB6 := hide (below_then hbd.out hbd.out.size bd6)
          rw [HM0.out] at OW6
          clear o6 b6 bd6 hod hbd hSd hAd R3 B3 HI2 hg6 hg5' hgb2 q1d q2d
          go_wp2_with fail
          go_loopw [8, 12] (fun v kv wr => ∃ k : Nat, k ≤ K ∧ kv = .int .i64 (k : Int) ∧ v = .slice (some ⟨g5, 0, none⟩) N c5 ∧ wr.ownsRow w.heap.size 3 1 (.slice (some ⟨g5, 0, none⟩) N c5) N (ints (natI (mapN N (mixP L m sets i k)))) ∧ wr.ownsRow w.heap.size 3 1 (.slice (some ⟨g6, 0, none⟩) K c6) K (ints (natI (mapN K p))) ∧ Below w.heap.size w wr) (fun _ kv _ => K - (intOf kv).toNat)
          case atStart => exact ⟨0, Nat.zero_le _, rfl, rfl, OW6.out, O6.out, HB6.out⟩
          case round =>
            clear OW6 O6 HB6
            obtain ⟨k, hk, rfl, rfl, hown, hless, hb⟩ := hrel
            obtain ⟨wk, rfl⟩ : ∃ wk : World, wk = wr := ⟨_, rfl⟩
            by_cases hkl : k < K
            · have kn0 : (0 : Int) ≤ (k : Int) := by omega
              have kn1 : (k : Int) < (N : Int) := by omega
              have kn2 : (k : Int) < (K : Int) := by omega
              have kn3 : ¬ ((N : Int) ≤ (k : Int)) := by omega
              obtain ⟨u1, u2, _, _⟩ := own_natQ hown (show k < N by omega) 0
              rw [mapN_at _ (by omega), HMC.out k] at u1
              obtain ⟨l1, _, _, _⟩ := own_natQ hless hkl 0
              rw [mapN_at _ hkl] at l1
              have hms := HMS.out k
              rw [HMV.out k] at hms
              have hbd := HBD.out k
              have hbp := HBP.out k
              generalize accP L m sets i k = old at *
              generalize p k = pk at *
              have ek : IntKind.i64.wrap ((old : Int) + (pk : Int)) = ((old + pk : Nat) : Int) := (IntWalk.i64_in _ (by omega)).trans (by omega)
              obtain ⟨nw, hnw⟩ : ∃ nw, old + pk = nw := ⟨_, rfl⟩
              rw [hnw] at ek hms
              have HMSk := hide hms
              have OW := hide hown
              have OL := hide hless
              have HB := hide hb
              have HKL := hide hkl
              clear hown hless hb hbd hbp hms hnw
              go_wp2_with fail
              go_loopw [8] (fun v wr => v = .slice (some ⟨g5, 0, none⟩) N c5 ∧ wk = wr) (fun _ _ => 0)
              case atStart => exact ⟨rfl, rfl⟩
              case round =>
                obtain ⟨rfl, rfl⟩ := hrel
                go_wp2_with fail
                refine wp_region_still_tail 12 (by kernel_rfl) (by kernel_rfl) ?_
                simp only [List.take_succ_cons, List.take_zero, List.drop_succ_cons, List.drop_zero]
                repeat still_step
                try refine wpStill_nil ?_
                have u1d : wk.drew.cell? ⟨g5, k, none⟩ = some (.int .i64 (old : Int)) := u1
                have u2d : wk.drew.frozen? ⟨g5, k, none⟩ = false := u2
                have OWd := hide OW.out.drew
                have OLd := hide OL.out.drew
                have HBd := hide HB.out.drew
                change wpList _ _ _ _ _ wk.drew
                clear OW OL HB u1 u2 l1
                generalize wk.drew = wl at *
                obtain ⟨_, _, o7, g7⟩ := own_natQ OWd.out (show k < N by omega) nw
                rw [HMSk.out] at o7
                have X1 := hide o7
                have X2 := hide (OLd.out.kept g7 (.inr (fun e => hne (by injection e))))
                have X3 := hide (HBd.out.grown g7 HBd.out.size (fun z h => by injection h with h; omega))
                clear o7 g7
                go_wp2_with fail
                exact ⟨⟨k + 1, HKL.out, by go_num, rfl, X1.out, X2.out, X3.out⟩, by simp [intOf]; omega⟩
            · obtain rfl : k = K := by omega
              rw [HMK.out] at hown
              have OW := hide hown
              have HB := hide hb
              clear hown hless hb
              go_wp2_with fail
              exact ⟨⟨i + 1, hlt, by go_num, rfl, OW.out, HB.out⟩, by simp [intOf]; omega⟩
        · have hzn : ((z : Int) != 0) = true := by rw [bne_iff_ne]; omega
          have HE := hide (show mapN N (accP L m sets (i + 1)) = mapN N (accP L m sets i) from mapN_congr fun q _ => by rw [HASi.out q, if_neg hz0, Nat.add_zero])
          clear hz0 HASi
          go_wp2_with fail
          go_region
          all_goals go_wp2_with fail
          exact ⟨⟨i + 1, hlt, by go_num, rfl, by rw [HE.out]; exact OW.out.drew, HB.out.drew⟩, by simp [intOf]; omega⟩
      · obtain rfl : i = sets.length := by omega
        rw [HAE.out] at hown
        have OW := hide hown
        have HB := hide hb
        clear hown hb
        go_wp2_with fail
        go_ret
        exact ⟨_, rfl, OW.out, HB.out⟩
end Go.Proofs.Ytdjkdjnbmhpokab
