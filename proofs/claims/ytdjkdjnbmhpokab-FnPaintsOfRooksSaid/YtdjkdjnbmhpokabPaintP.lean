/-
  Colours, purely: paints cell by cell; parts; paints by parts. (L: the sets of cells reached.)
-/
import Derived.Test.YtdjkdjnbmhpokabGuardP
namespace Go.Proofs.Ytdjkdjnbmhpokab
open Go.RowKit
set_option linter.unusedVariables false

/-- The next cell, behind those of the head, may have the colour c. -/
def fitsTo (L head : List Nat) (c : Nat) : Nat → Bool
  | 0 => true
  | i + 1 => fitsTo L head c i && !(head[i]?.getD 0 == c && bitN (L[head.length]?.getD 0) i == 1)
def fitsP (L head : List Nat) (c : Nat) : Bool := fitsTo L head c head.length
def sumN (f : Nat → Nat) : Nat → Nat
  | 0 => 0
  | k + 1 => sumN f k + f k
/-- How many colourings with k colours begin so, with m cells more. -/
def paintsP (L : List Nat) (k : Nat) : Nat → List Nat → Nat
  | 0, _ => 1
  | m + 1, head => sumN (fun c => if fitsP L head c then paintsP L k m (head ++ [c]) else 0) k
/-- How many ways there are to part m cells more into loose sets, p sets in all. -/
def partsF (L : List Nat) : Nat → List Nat → Nat → Nat
  | 0, sets, p => if p = sets.length then 1 else 0
  | m + 1, sets, p => partsF L m (sets ++ [2 ^ (L.length - (m + 1))]) p + sumN (fun i => if L[L.length - (m + 1)]?.getD 0 &&& sets[i]?.getD 0 = 0 then partsF L m (sets.set i (sets[i]?.getD 0 + 2 ^ (L.length - (m + 1)))) p else 0) sets.length
/-- In how many ways p colours are taken out of k, one after the other. -/
def fallP (k : Nat) : Nat → Nat
  | 0 => 1
  | p + 1 => fallP k p * (k - p)
theorem sumN_congr {f g : Nat → Nat} : ∀ {n}, (∀ i, i < n → f i = g i) → sumN f n = sumN g n
  | 0, _ => rfl
  | n + 1, h => by
    show sumN f n + f n = sumN g n + g n
    rw [sumN_congr (fun i hi => h i (by omega)), h n (by omega)]
theorem sumN_add (f g : Nat → Nat) : ∀ n, sumN (fun i => f i + g i) n = sumN f n + sumN g n
  | 0 => rfl
  | n + 1 => by
    show sumN (fun i => f i + g i) n + (f n + g n) = (sumN f n + f n) + (sumN g n + g n)
    rw [sumN_add f g n]; omega
theorem sumN_mulr (f : Nat → Nat) (c : Nat) : ∀ n, sumN (fun i => f i * c) n = sumN f n * c
  | 0 => (Nat.zero_mul c).symm
  | n + 1 => by
    show sumN (fun i => f i * c) n + f n * c = (sumN f n + f n) * c
    rw [sumN_mulr f c n, Nat.add_mul]
theorem sumN_zero : ∀ n, sumN (fun _ => 0) n = 0
  | 0 => rfl
  | n + 1 => by
    show sumN (fun _ => 0) n + 0 = 0
    rw [sumN_zero n]
theorem sumN_swap (f : Nat → Nat → Nat) (n : Nat) : ∀ m, sumN (fun i => sumN (fun j => f i j) n) m = sumN (fun j => sumN (fun i => f i j) m) n
  | 0 => (sumN_zero n).symm
  | m + 1 => by
    show sumN (fun i => sumN (fun j => f i j) n) m + sumN (fun j => f m j) n = sumN (fun j => sumN (fun i => f i j) m + f m j) n
    rw [sumN_swap f n m, sumN_add]
theorem sumN_le {f : Nat → Nat} {B : Nat} : ∀ {n}, (∀ i, i < n → f i ≤ B) → sumN f n ≤ n * B
  | 0, _ => by simp [sumN]
  | n + 1, h => by
    have := sumN_le (n := n) (fun i hi => h i (by omega))
    have := h n (by omega)
    show sumN f n + f n ≤ (n + 1) * B
    rw [Nat.add_mul, Nat.one_mul]
    omega
theorem sumN_ge {f : Nat → Nat} {i : Nat} : ∀ {n}, i < n → f i ≤ sumN f n
  | 0, h => absurd h (by omega)
  | n + 1, h => by
    show f i ≤ sumN f n + f n
    by_cases e : i = n
    · subst e; omega
    · have := sumN_ge (f := f) (i := i) (n := n) (by omega)
      omega
theorem sumN_mono {f g : Nat → Nat} : ∀ {n}, (∀ i, i < n → f i ≤ g i) → sumN f n ≤ sumN g n
  | 0, _ => Nat.le_refl _
  | n + 1, h => by
    have := sumN_mono (n := n) (fun i hi => h i (by omega))
    have := h n (by omega)
    show sumN f n + f n ≤ sumN g n + g n
    omega
theorem paints_le (L : List Nat) (k : Nat) : ∀ m head, paintsP L k m head ≤ k ^ m
  | 0, _ => Nat.le_refl _
  | m + 1, head => by
    have := sumN_le (f := fun c => if fitsP L head c then paintsP L k m (head ++ [c]) else 0) (B := k ^ m) (n := k) (fun c _ => by
      split
      · exact paints_le L k m _
      · exact Nat.zero_le _)
    rw [Nat.pow_succ, Nat.mul_comm]
    exact this
/-! ### Colours are given to sets -/
/-- A set of cells has the bit of a cell. -/
theorem fall_succ (k : Nat) : ∀ p, fallP (k + 1) (p + 1) = (k + 1) * fallP k p
  | 0 => by simp [fallP]
  | p + 1 => by
    show fallP (k + 1) (p + 1) * (k + 1 - (p + 1)) = (k + 1) * (fallP k p * (k - p))
    rw [fall_succ k p, Nat.mul_assoc, show k + 1 - (p + 1) = k - p by omega]
theorem fall_mono (k : Nat) : ∀ p, fallP k p ≤ fallP (k + 1) p
  | 0 => Nat.le_refl _
  | p + 1 => Nat.mul_le_mul (fall_mono k p) (by omega)
/-- A sum over all colours, by those that are taken and the others, which are alike. -/
theorem sumN_taken (G k : Nat) : ∀ (cs : List Nat) (F : Nat → Nat), cs.Nodup → (∀ c ∈ cs, c < k) → (∀ c, c < k → c ∉ cs → F c = G) → sumN F k + cs.length * G = sumN (fun j => F (cs[j]?.getD 0)) cs.length + k * G
  | [], F, _, _, h => by
    simp only [List.length_nil, Nat.zero_mul, Nat.add_zero, sumN, Nat.zero_add]
    rw [sumN_congr (g := fun _ => G) (fun c hc => h c hc List.not_mem_nil)]
    have : ∀ k, sumN (fun _ => G) k = k * G := fun k => by
      induction k with
      | zero => simp [sumN]
      | succ k ih => show sumN (fun _ => G) k + G = _; rw [ih, Nat.add_mul, Nat.one_mul]
    exact this k
  | a :: cs, F, hn, hk, h => by
    obtain ⟨hna, hn'⟩ := List.nodup_cons.1 hn
    have hak := hk a List.mem_cons_self
    have ih := sumN_taken G k cs (fun c => if c = a then G else F c) hn' (fun c hc => hk c (List.mem_cons_of_mem _ hc)) (fun c hc hnc => by
      show (if c = a then G else F c) = G
      by_cases e : c = a
      · rw [if_pos e]
      · rw [if_neg e]
        exact h c hc (fun h' => (List.mem_cons.1 h').elim e hnc))
    have h1 : sumN F k + G = sumN (fun c => if c = a then G else F c) k + F a := by
      clear ih h hk
      induction k with
      | zero => omega
      | succ k ih' =>
        show sumN F k + F k + G = sumN (fun c => if c = a then G else F c) k + (if k = a then G else F k) + F a
        by_cases e : k = a
        · subst e
          rw [if_pos rfl, sumN_congr (f := fun c => if c = k then G else F c) (g := F) (fun c hc => if_neg (by omega))]
          omega
        · rw [if_neg e]
          have := ih' (by omega)
          omega
    have h2 : sumN (fun j => (fun c => if c = a then G else F c) (cs[j]?.getD 0)) cs.length = sumN (fun j => F (cs[j]?.getD 0)) cs.length := sumN_congr fun j hj => by
      simp only
      rw [if_neg]
      intro e
      apply hna
      rw [← e, List.getElem?_eq_getElem hj]
      exact List.getElem_mem hj
    have h3 : ∀ m, sumN (fun j => F ((a :: cs)[j]?.getD 0)) (m + 1) = F a + sumN (fun j => F (cs[j]?.getD 0)) m := fun m => by
      induction m with
      | zero => simp [sumN]
      | succ m ih => 
        show sumN (fun j => F ((a :: cs)[j]?.getD 0)) (m + 1) + F ((a :: cs)[m + 1]?.getD 0) = F a + (sumN (fun j => F (cs[j]?.getD 0)) m + F (cs[m]?.getD 0))
        rw [ih, List.getElem?_cons_succ]
        omega
    rw [h2] at ih
    rw [List.length_cons, h3, Nat.add_mul, Nat.one_mul]
    omega
/-- The sets of cells that have the colours cs, behind a head of colours. -/
structure Parted (L head sets cs : List Nat) (k : Nat) : Prop where
  len : cs.length = sets.length
  nodup : cs.Nodup
  lt : ∀ c ∈ cs, c < k
  mem : ∀ i, i < head.length → head[i]?.getD 0 ∈ cs
  bit : ∀ i j, i < head.length → j < cs.length → ((sets[j]?.getD 0).testBit i = true ↔ head[i]?.getD 0 = cs[j]?.getD 0)
  small : ∀ j, j < sets.length → sets[j]?.getD 0 < 2 ^ head.length
  few : sets.length ≤ head.length
theorem bitN_test (s i : Nat) : bitN s i = 1 ↔ s.testBit i = true := by
  unfold bitN
  rw [Nat.testBit_eq_decide_div_mod_eq]
  simp
theorem fitsTo_iff (L head : List Nat) (c : Nat) : ∀ m, fitsTo L head c m = true ↔ ∀ i, i < m → ¬ (head[i]?.getD 0 = c ∧ (L[head.length]?.getD 0).testBit i = true)
  | 0 => by simp [fitsTo]
  | m + 1 => by
    unfold fitsTo
    rw [Bool.and_eq_true, fitsTo_iff L head c m]
    constructor
    · rintro ⟨h1, h2⟩ i hi
      by_cases e : i = m
      · subst e
        rintro ⟨h3, h4⟩
        rw [h3, (bitN_test _ _).2 h4] at h2
        simp at h2
      · exact h1 i (by omega)
    · intro h
      refine ⟨fun i hi => h i (by omega), ?_⟩
      have := h m (by omega)
      rw [← bitN_test] at this
      simp only [Bool.not_eq_true', Bool.and_eq_false_iff, beq_eq_false_iff_ne, ne_eq]
      exact Classical.not_and_iff_not_or_not.1 this
theorem fits_set {L head sets cs : List Nat} {k j : Nat} (h : Parted L head sets cs k) (hj : j < cs.length) : fitsP L head (cs[j]?.getD 0) = decide (L[head.length]?.getD 0 &&& sets[j]?.getD 0 = 0) := by
  rw [Bool.eq_iff_iff, decide_eq_true_eq]
  unfold fitsP
  rw [fitsTo_iff]
  constructor
  · intro h1
    refine Nat.eq_of_testBit_eq fun i => ?_
    rw [Nat.testBit_and, Nat.zero_testBit]
    by_cases hi : i < head.length
    · have h2 := h1 i hi
      rw [← h.bit i j hi hj] at h2
      cases h3 : (L[head.length]?.getD 0).testBit i <;> cases h4 : (sets[j]?.getD 0).testBit i <;> simp_all
    · have := h.small j (by rw [← h.len]; exact hj)
      rw [Nat.testBit_lt_two_pow (Nat.lt_of_lt_of_le this (Nat.pow_le_pow_right (by omega) (by omega))), Bool.and_false]
  · intro h1 i hi h2
    have h3 := (h.bit i j hi hj).2 h2.1
    have := congrArg (fun s => s.testBit i) h1
    simp only [Nat.testBit_and, Nat.zero_testBit, h2.2, h3] at this
    cases this
theorem fits_new {L head sets cs : List Nat} {k c : Nat} (h : Parted L head sets cs k) (hc : c ∉ cs) : fitsP L head c = true := by
  unfold fitsP
  rw [fitsTo_iff]
  rintro i hi ⟨h1, _⟩
  exact hc (h1 ▸ h.mem i hi)
theorem parted_set {L head sets cs : List Nat} {k j : Nat} (h : Parted L head sets cs k) (hj : j < cs.length) : Parted L (head ++ [cs[j]?.getD 0]) (sets.set j (sets[j]?.getD 0 + 2 ^ head.length)) cs k := by
  have hjs : j < sets.length := by rw [← h.len]; exact hj
  have hm : cs[j]?.getD 0 ∈ cs := by rw [List.getElem?_eq_getElem hj]; exact List.getElem_mem hj
  have hsm := h.small j hjs
  refine ⟨by rw [List.length_set]; exact h.len, h.nodup, h.lt, fun i hi => ?_, fun i q hi hq => ?_, fun q hq => ?_, by have := h.few; simp; omega⟩
  · rw [List.length_append, List.length_singleton] at hi
    by_cases e : i < head.length
    · rw [List.getElem?_append_left e]; exact h.mem i e
    · rw [show i = head.length by omega, List.getElem?_append_right (Nat.le_refl _)]
      simpa using hm
  · rw [List.length_append, List.length_singleton] at hi
    have hqs : q < sets.length := by rw [← h.len]; exact hq
    by_cases e : i < head.length
    · rw [List.getElem?_append_left e, ← h.bit i q e hq]
      by_cases eq : q = j
      · subst eq
        rw [List.getElem?_set_self hqs, Option.getD_some, Nat.add_comm, Nat.testBit_two_pow_add_gt e]
      · rw [List.getElem?_set_ne (fun h' => eq h'.symm)]
    · have ei : i = head.length := by omega
      subst ei
      rw [List.getElem?_append_right (Nat.le_refl _), Nat.sub_self]
      simp only [List.getElem?_cons_zero, Option.getD_some]
      by_cases eq : q = j
      · subst eq
        rw [List.getElem?_set_self hqs, Option.getD_some, Nat.add_comm, Nat.testBit_two_pow_add_eq, Nat.testBit_lt_two_pow hsm]
        simp
      · rw [List.getElem?_set_ne (fun h' => eq h'.symm), Nat.testBit_lt_two_pow (h.small q hqs)]
        constructor
        · intro h'; cases h'
        · intro h'
          exfalso
          rw [List.getElem?_eq_getElem hj, List.getElem?_eq_getElem hq] at h'
          exact eq ((List.getElem_inj h.nodup).1 h'.symm)
  · rw [List.length_set] at hq
    rw [List.length_append, List.length_singleton, Nat.pow_succ]
    have := h.small q hq
    by_cases eq : q = j
    · subst eq
      rw [List.getElem?_set_self hq, Option.getD_some]
      omega
    · rw [List.getElem?_set_ne (fun h' => eq h'.symm)]
      omega
theorem parted_new {L head sets cs : List Nat} {k c : Nat} (h : Parted L head sets cs k) (hc : c ∉ cs) (hck : c < k) : Parted L (head ++ [c]) (sets ++ [2 ^ head.length]) (cs ++ [c]) k := by
  have hl := h.len
  refine ⟨by simp [hl], ?_, fun d hd => ?_, fun i hi => ?_, fun i q hi hq => ?_, fun q hq => ?_, by have := h.few; simp; omega⟩
  · rw [List.nodup_append]
    refine ⟨h.nodup, by simp, fun a ha b hb => ?_⟩
    rw [List.mem_singleton.1 hb]
    exact fun e => hc (e ▸ ha)
  · rcases List.mem_append.1 hd with hd | hd
    · exact h.lt d hd
    · rw [List.mem_singleton.1 hd]; exact hck
  · rw [List.length_append, List.length_singleton] at hi
    by_cases e : i < head.length
    · rw [List.getElem?_append_left e]; exact List.mem_append_left _ (h.mem i e)
    · rw [show i = head.length by omega, List.getElem?_append_right (Nat.le_refl _)]
      simp
  · rw [List.length_append, List.length_singleton] at hi hq
    by_cases e : i < head.length
    · rw [List.getElem?_append_left e]
      by_cases eq : q < cs.length
      · rw [List.getElem?_append_left eq, List.getElem?_append_left (by omega), h.bit i q e eq]
      · have eq' : q = cs.length := by omega
        subst eq'
        rw [List.getElem?_append_right (Nat.le_refl _), List.getElem?_append_right (by omega), hl, Nat.sub_self]
        simp only [List.getElem?_cons_zero, Option.getD_some]
        rw [Nat.testBit_two_pow_of_ne (by omega)]
        constructor
        · intro h'; cases h'
        · intro h'; exact absurd (h' ▸ h.mem i e) hc
    · have ei : i = head.length := by omega
      subst ei
      rw [List.getElem?_append_right (Nat.le_refl _), Nat.sub_self]
      simp only [List.getElem?_cons_zero, Option.getD_some]
      by_cases eq : q < cs.length
      · rw [List.getElem?_append_left eq, List.getElem?_append_left (by omega), Nat.testBit_lt_two_pow (h.small q (by omega))]
        constructor
        · intro h'; cases h'
        · intro h'
          rw [List.getElem?_eq_getElem eq, Option.getD_some] at h'
          exact absurd (h' ▸ List.getElem_mem eq) hc
      · have eq' : q = cs.length := by omega
        subst eq'
        rw [List.getElem?_append_right (Nat.le_refl _), List.getElem?_append_right (by omega), hl, Nat.sub_self]
        simp
  · rw [List.length_append, List.length_singleton] at hq ⊢
    rw [Nat.pow_succ]
    by_cases eq : q < sets.length
    · rw [List.getElem?_append_left eq]
      have := h.small q eq
      omega
    · rw [show q = sets.length by omega, List.getElem?_append_right (Nat.le_refl _)]
      have : 0 < 2 ^ head.length := Nat.pow_pos (by omega)
      simp
      omega
/-- No fewer sets than there are. -/
theorem parts_few (L : List Nat) : ∀ m sets p, p < sets.length → partsF L m sets p = 0
  | 0, sets, p, h => if_neg (by omega)
  | m + 1, sets, p, h => by
    unfold partsF
    rw [parts_few L m _ p (by simp; omega), sumN_congr (g := fun _ => 0) (fun i hi => by
      split
      · exact parts_few L m _ p (by simpa using h)
      · rfl), sumN_zero]
theorem taken_le {cs : List Nat} {k : Nat} (hn : cs.Nodup) (hk : ∀ c ∈ cs, c < k) : cs.length ≤ k := by
  have h := sumN_taken 0 k cs (fun c => if c ∈ cs then 1 else 0) hn hk (fun c _ hc => if_neg hc)
  have h1 : sumN (fun j => (fun c => if c ∈ cs then 1 else 0) (cs[j]?.getD 0)) cs.length = cs.length := by
    rw [sumN_congr (g := fun _ => 1) (fun j hj => by
      simp only
      rw [List.getElem?_eq_getElem hj]
      exact if_pos (List.getElem_mem hj))]
    have : ∀ n, sumN (fun _ => 1) n = n := fun n => by
      induction n with
      | zero => rfl
      | succ n ih => show sumN (fun _ => 1) n + 1 = _; rw [ih]
    exact this _
  have h2 := sumN_le (f := fun c => if c ∈ cs then 1 else 0) (B := 1) (n := k) (fun i _ => by split <;> omega)
  rw [h1] at h
  omega
theorem sumN_pick {g : Nat → Nat} {p : Nat} : ∀ {n}, p < n → sumN (fun q => (if q = p then 1 else 0) * g q) n = g p
  | 0, h => absurd h (by omega)
  | n + 1, h => by
    show sumN (fun q => (if q = p then 1 else 0) * g q) n + (if n = p then 1 else 0) * g n = g p
    by_cases e : n = p
    · subst e
      rw [if_pos rfl, sumN_congr (g := fun _ => 0) (fun q hq => by rw [if_neg (by omega), Nat.zero_mul]), sumN_zero]
      omega
    · rw [if_neg e, sumN_pick (by omega)]
      omega
theorem fall_zero : ∀ p, fallP 0 (p + 1) = 0
  | 0 => rfl
  | p + 1 => by
    show fallP 0 (p + 1) * (0 - (p + 1)) = 0
    rw [fall_zero p, Nat.zero_mul]
/-- PAINTS ARE PARTS WITH COLOURS. -/
theorem paints_parts {L : List Nat} {k : Nat} : ∀ m head sets cs, head.length + m = L.length → Parted L head sets cs k → paintsP L k m head = sumN (fun q => partsF L m sets q * fallP (k - sets.length) (q - sets.length)) (L.length + 1)
  | 0, head, sets, cs, hm, h => by
    have hp : sets.length < L.length + 1 := by have := h.few; omega
    show 1 = sumN (fun q => (if q = sets.length then 1 else 0) * fallP (k - sets.length) (q - sets.length)) (L.length + 1)
    rw [sumN_pick (g := fun q => fallP (k - sets.length) (q - sets.length)) hp, Nat.sub_self]
    rfl
  | m + 1, head, sets, cs, hm, h => by
    have hl := h.len
    have hpk := taken_le h.nodup h.lt
    have ht : L.length - (m + 1) = head.length := by omega
    obtain ⟨G, hG⟩ : ∃ G, sumN (fun q => partsF L m (sets ++ [2 ^ head.length]) q * fallP (k - (sets.length + 1)) (q - (sets.length + 1))) (L.length + 1) = G := ⟨_, rfl⟩
    have hs := sumN_taken G k cs (fun c => if fitsP L head c then paintsP L k m (head ++ [c]) else 0) h.nodup h.lt (fun c hck hc => by
      rw [if_pos (fits_new h hc), paints_parts m (head ++ [c]) _ _ (by simp; omega) (parted_new h hc hck), ← hG, List.length_append, List.length_singleton])
    have h1 : sumN (fun j => (fun c => if fitsP L head c then paintsP L k m (head ++ [c]) else 0) (cs[j]?.getD 0)) cs.length =
        sumN (fun q => sumN (fun j => if L[head.length]?.getD 0 &&& sets[j]?.getD 0 = 0 then partsF L m (sets.set j (sets[j]?.getD 0 + 2 ^ head.length)) q else 0) sets.length * fallP (k - sets.length) (q - sets.length)) (L.length + 1) := by
      rw [sumN_congr (g := fun j => sumN (fun q => (if L[head.length]?.getD 0 &&& sets[j]?.getD 0 = 0 then partsF L m (sets.set j (sets[j]?.getD 0 + 2 ^ head.length)) q else 0) * fallP (k - sets.length) (q - sets.length)) (L.length + 1)) (fun j hj => by
        simp only
        rw [fits_set h hj]
        by_cases e : L[head.length]?.getD 0 &&& sets[j]?.getD 0 = 0
        · rw [if_pos (decide_eq_true e), paints_parts m _ _ _ (by simp; omega) (parted_set h hj), List.length_set]
          exact sumN_congr fun q _ => by rw [if_pos e]
        · rw [if_neg (by simpa using e), sumN_congr (g := fun _ => 0) (fun q _ => by rw [if_neg e, Nat.zero_mul]), sumN_zero]), sumN_swap, hl]
      exact sumN_congr fun q _ => by rw [sumN_mulr]
    have h2 : (k - sets.length) * G = sumN (fun q => partsF L m (sets ++ [2 ^ head.length]) q * fallP (k - sets.length) (q - sets.length)) (L.length + 1) := by
      rw [← hG, Nat.mul_comm, ← sumN_mulr]
      refine sumN_congr fun q _ => ?_
      by_cases e : q < sets.length + 1
      · rw [parts_few L m _ q (by simpa using e)]
        simp
      · rw [Nat.mul_assoc]
        congr 1
        obtain ⟨r, hr⟩ : ∃ r, q - sets.length = r + 1 := ⟨q - sets.length - 1, by omega⟩
        rw [hr, show q - (sets.length + 1) = r by omega]
        by_cases ek : k = sets.length
        · rw [ek, Nat.sub_self, fall_zero, Nat.mul_zero]
        · obtain ⟨k', hk'⟩ : ∃ k', k - sets.length = k' + 1 := ⟨k - sets.length - 1, by omega⟩
          rw [hk', show k - (sets.length + 1) = k' by omega, fall_succ, Nat.mul_comm]
    have h3 : k * G = (k - sets.length) * G + cs.length * G := by
      rw [← Nat.add_mul, hl, Nat.sub_add_cancel (by omega)]
    show sumN (fun c => if fitsP L head c then paintsP L k m (head ++ [c]) else 0) k = _
    rw [h1, h3, h2] at hs
    have h4 : sumN (fun q => partsF L (m + 1) sets q * fallP (k - sets.length) (q - sets.length)) (L.length + 1) =
        sumN (fun q => partsF L m (sets ++ [2 ^ head.length]) q * fallP (k - sets.length) (q - sets.length)) (L.length + 1) +
        sumN (fun q => sumN (fun j => if L[head.length]?.getD 0 &&& sets[j]?.getD 0 = 0 then partsF L m (sets.set j (sets[j]?.getD 0 + 2 ^ head.length)) q else 0) sets.length * fallP (k - sets.length) (q - sets.length)) (L.length + 1) := by
      rw [← sumN_add]
      refine sumN_congr fun q _ => ?_
      rw [← Nat.add_mul]
      congr 1
      show partsF L m (sets ++ [2 ^ (L.length - (m + 1))]) q + _ = _
      rw [ht]
    omega
/-- All paints, by parts. -/
theorem paint_all (L : List Nat) (k : Nat) : paintsP L k L.length [] = sumN (fun q => partsF L L.length [] q * fallP k q) (L.length + 1) := by
  have := paints_parts (L := L) (k := k) L.length [] [] [] (by simp) ⟨rfl, List.nodup_nil, fun c hc => absurd hc List.not_mem_nil, fun i hi => absurd hi (by simp), fun i j hi => absurd hi (by simp), fun j hj => absurd hj (by simp), Nat.le_refl _⟩
  simpa using this
end Go.Proofs.Ytdjkdjnbmhpokab
