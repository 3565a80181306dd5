
/-
  Walks by numbers of moves, purely: both ways they are as many; they begin as moves.
-/
import Derived.Test.YtoapmmmmdfmaeacChaseP
import Derived.Test.YtoapmmmmdfmaeacPureM
namespace Go.Proofs.Ytoapmmmmdfmaeac
open Go.RowKit
set_option linter.unusedVariables false

/-! ### Sums -/
def sm (f : Nat → Nat) : Nat → Nat
  | 0 => 0
  | n + 1 => sm f n + f n
theorem sm_congr {f g : Nat → Nat} : ∀ {n}, (∀ a, a < n → f a = g a) → sm f n = sm g n
  | 0, _ => rfl
  | n + 1, h => by
    show sm f n + f n = sm g n + g n
    rw [sm_congr (fun a ha => h a (by omega)), h n (by omega)]
theorem sm_zero : ∀ n, sm (fun _ => 0) n = 0
  | 0 => rfl
  | n + 1 => by
    show sm (fun _ => 0) n + 0 = 0
    rw [sm_zero n]
theorem sm_add (f g : Nat → Nat) : ∀ n, sm (fun a => f a + g a) n = sm f n + sm g n
  | 0 => rfl
  | n + 1 => by
    show sm (fun a => f a + g a) n + (f n + g n) = (sm f n + f n) + (sm g n + g n)
    rw [sm_add f g n]
    omega
theorem sm_mulr (f : Nat → Nat) (c : Nat) : ∀ n, sm (fun a => f a * c) n = sm f n * c
  | 0 => (Nat.zero_mul c).symm
  | n + 1 => by
    show sm (fun a => f a * c) n + f n * c = (sm f n + f n) * c
    rw [sm_mulr f c n, Nat.add_mul]
theorem sm_mull (f : Nat → Nat) (c : Nat) : ∀ n, sm (fun a => c * f a) n = c * sm f n
  | 0 => (Nat.mul_zero c).symm
  | n + 1 => by
    show sm (fun a => c * f a) n + c * f n = c * (sm f n + f n)
    rw [sm_mull f c n, Nat.mul_add]
theorem sm_swap (f : Nat → Nat → Nat) (n : Nat) : ∀ m, sm (fun a => sm (fun b => f a b) n) m = sm (fun b => sm (fun a => f a b) m) n
  | 0 => (sm_zero n).symm
  | m + 1 => by
    show sm (fun a => sm (fun b => f a b) n) m + sm (fun b => f m b) n = sm (fun b => sm (fun a => f a b) m + f m b) n
    rw [sm_swap f n m, sm_add]
theorem sm_one {f : Nat → Nat} {i : Nat} : ∀ {n}, i < n → (∀ a, a < n → a ≠ i → f a = 0) → sm f n = f i
  | 0, h, _ => absurd h (by omega)
  | n + 1, h, h0 => by
    show sm f n + f n = f i
    by_cases e : i = n
    · subst e
      rw [sm_congr (g := fun _ => 0) (fun a ha => h0 a (by omega) (by omega)), sm_zero, Nat.zero_add]
    · rw [sm_one (i := i) (n := n) (by omega) (fun a ha hne => h0 a (by omega) hne), h0 n (by omega) (fun h' => e h'.symm), Nat.add_zero]
theorem sm_le {f : Nat → Nat} {B : Nat} : ∀ {n}, (∀ a, a < n → f a ≤ B) → sm f n ≤ n * B
  | 0, _ => by simp [sm]
  | n + 1, h => by
    have := sm_le (n := n) (fun a ha => h a (by omega))
    have := h n (by omega)
    show sm f n + f n ≤ (n + 1) * B
    rw [Nat.add_mul, Nat.one_mul]
    omega

/-! ### Walks -/
def goesN (L : List Nat) (a b : Nat) : Nat := bitN (L[a]?.getD 0) b
/-- How many walks of m moves lead from i to b. -/
def walkN (L : List Nat) (i : Nat) : Nat → Nat → Nat
  | 0, b => if b = i then 1 else 0
  | m + 1, b => sm (fun a => walkN L i m a * goesN L a b) L.length
theorem goes_le (L : List Nat) (a b : Nat) : goesN L a b ≤ 1 := by
  unfold goesN
  rcases bitN_two (L[a]?.getD 0) b with h | h <;> omega
theorem walk_le (L : List Nat) (i : Nat) (h9 : L.length ≤ 9) : ∀ m b, walkN L i m b ≤ 9 ^ m
  | 0, b => by
    show (if b = i then 1 else 0) ≤ 1
    split <;> omega
  | m + 1, b => by
    have := sm_le (f := fun a => walkN L i m a * goesN L a b) (B := 9 ^ m) (n := L.length) (fun a _ => by
      have h1 := walk_le L i h9 m a
      have h2 := goes_le L a b
      calc walkN L i m a * goesN L a b ≤ 9 ^ m * 1 := Nat.mul_le_mul h1 h2
        _ = 9 ^ m := Nat.mul_one _)
    show sm _ L.length ≤ 9 ^ (m + 1)
    refine Nat.le_trans this ?_
    rw [Nat.pow_succ, Nat.mul_comm]
    exact Nat.mul_le_mul_left _ h9
theorem pow9_le {m : Nat} (h : m ≤ 8) : 9 ^ m ≤ 43046721 := Nat.pow_le_pow_right (by omega) h
/-- The first move and the rest. -/
theorem walk_front (L : List Nat) {i : Nat} (hi : i < L.length) : ∀ m b, b < L.length → walkN L i (m + 1) b = sm (fun a => goesN L i a * walkN L a m b) L.length
  | 0, b, hb => by
    show sm (fun a => (if a = i then 1 else 0) * goesN L a b) L.length = sm (fun a => goesN L i a * (if b = a then 1 else 0)) L.length
    rw [sm_one (i := i) hi (fun a _ hne => by rw [if_neg hne, Nat.zero_mul]), sm_one (i := b) hb (fun a _ hne => by rw [if_neg (fun h => hne h.symm), Nat.mul_zero]), if_pos rfl, if_pos rfl, Nat.one_mul, Nat.mul_one]
  | m + 1, b, hb => by
    have ih := fun a ha => walk_front L hi m a ha
    show sm (fun a => walkN L i (m + 1) a * goesN L a b) L.length = _
    rw [sm_congr (g := fun a => sm (fun c => goesN L i c * walkN L c m a * goesN L a b) L.length) (fun a ha => by rw [ih a ha, sm_mulr]), sm_swap]
    refine sm_congr fun c hc => ?_
    rw [sm_congr (g := fun a => goesN L i c * (walkN L c m a * goesN L a b)) (fun a _ => Nat.mul_assoc _ _ _), sm_mull]
    rfl
/-- Both ways walks are as many. -/
theorem walk_back {L : List Nat} (hs : ∀ a b, a < L.length → b < L.length → goesN L a b = goesN L b a) : ∀ m i b, i < L.length → b < L.length → walkN L i m b = walkN L b m i
  | 0, i, b, _, _ => by
    show (if b = i then 1 else 0) = (if i = b then 1 else 0)
    by_cases e : b = i
    · rw [if_pos e, if_pos e.symm]
    · rw [if_neg e, if_neg (fun h => e h.symm)]
  | m + 1, i, b, hi, hb => by
    rw [walk_front L hb m i hi]
    show sm (fun a => walkN L i m a * goesN L a b) L.length = _
    refine sm_congr fun a ha => ?_
    rw [walk_back hs m i a hi ha, hs a b ha hb, Nat.mul_comm]
def symOk (L : List Nat) : Bool := (List.range L.length).all fun a => (List.range L.length).all fun b => goesN L a b == goesN L b a
theorem sym_all : chTab.all (fun e => symOk e.1) = true := by decide +kernel
theorem sym_of {L : List Nat} (h : (chTab.any fun e => e.1 == L) = true) (a b : Nat) (ha : a < L.length) (hb : b < L.length) : goesN L a b = goesN L b a := by
  obtain ⟨e, he, rfl, _⟩ := chOf_mem h
  have := List.all_eq_true.1 sym_all e he
  exact beq_iff_eq.1 (List.all_eq_true.1 (List.all_eq_true.1 this a (List.mem_range.2 ha)) b (List.mem_range.2 hb))

/-! ### Walks begin as moves -/
def vecStep (L v : List Nat) : List Nat := (List.range L.length).map fun b => sm (fun a => v[a]?.getD 0 * goesN L a b) L.length
def vecW (L : List Nat) (i : Nat) : Nat → List Nat
  | 0 => (List.range L.length).map fun b => if b = i then 1 else 0
  | m + 1 => vecStep L (vecW L i m)
def iterW (L : List Nat) : Nat → List Nat → List (List Nat)
  | 0, v => [v]
  | m + 1, v => v :: iterW L m (vecStep L v)
theorem vec_at (L : List Nat) (i : Nat) : ∀ m b, b < L.length → (vecW L i m)[b]?.getD 0 = walkN L i m b
  | 0, b, hb => by simp [vecW, walkN, hb]
  | m + 1, b, hb => by
    show ((List.range L.length).map _)[b]?.getD 0 = _
    rw [List.getElem?_map, List.getElem?_range hb]
    exact sm_congr fun a ha => by rw [vec_at L i m a ha]
theorem iter_at (L : List Nat) (i : Nat) : ∀ M s m, m ≤ M → (iterW L M (vecW L i s))[m]? = some (vecW L i (s + m))
  | 0, s, m, h => by
    obtain rfl : m = 0 := by omega
    rfl
  | M + 1, s, 0, _ => rfl
  | M + 1, s, m + 1, h => by
    show (iterW L M (vecW L i (s + 1)))[m]? = _
    rw [iter_at L i M (s + 1) m (by omega), show s + 1 + m = s + (m + 1) by omega]
def beginOk (bc br : Nat) (p : List (Int × Int) × Bool) : Bool :=
  let T := tabP bc br p.2 p.1
  let L := setsP bc br p.2 p.1
  (L.length == bc * br) && (List.range (bc * br)).all fun i =>
    let D := movesT T (bc * br) i
    let V := iterW L 8 (vecW L i 0)
    (List.range (bc * br)).all fun k =>
      let d := D[k]?.getD 7
      (List.range 9).all fun m =>
        let c := (V[m]?.getD [])[k]?.getD 0
        if d < 0 ∨ (m : Int) < d then c == 0 else if d = (m : Int) then c != 0 else true
theorem begin_all : ∀ a : Fin 5, ∀ b : Fin 5, (a.val + 1) * (b.val + 1) ≤ 9 → kinds6.all (beginOk (a.val + 1) (b.val + 1)) = true := by decide +kernel
theorem begin_is {bc br : Nat} {p : List (Int × Int) × Bool} (h : beginOk bc br p = true) {i k m : Nat} (hi : i < bc * br) (hk : k < bc * br) (hm : m ≤ 8) :
    if (movesT (tabP bc br p.2 p.1) (bc * br) i)[k]?.getD 7 < 0 ∨ (m : Int) < (movesT (tabP bc br p.2 p.1) (bc * br) i)[k]?.getD 7 then walkN (setsP bc br p.2 p.1) i m k = 0
    else if (movesT (tabP bc br p.2 p.1) (bc * br) i)[k]?.getD 7 = (m : Int) then walkN (setsP bc br p.2 p.1) i m k ≠ 0 else True := by
  unfold beginOk at h
  simp only [Bool.and_eq_true, beq_iff_eq] at h
  obtain ⟨hl, h⟩ := h
  have h := List.all_eq_true.1 (List.all_eq_true.1 (List.all_eq_true.1 h i (List.mem_range.2 hi)) k (List.mem_range.2 hk)) m (List.mem_range.2 (by omega))
  rw [iter_at _ i 8 0 m hm, Nat.zero_add, Option.getD_some, vec_at _ i m k (by omega)] at h
  split
  · rename_i e
    rw [if_pos e] at h
    exact beq_iff_eq.1 h
  · rename_i e
    rw [if_neg e] at h
    split
    · rename_i e2
      rw [if_pos e2] at h
      exact bne_iff_ne.1 h
    · trivial
end Go.Proofs.Ytoapmmmmdfmaeac
