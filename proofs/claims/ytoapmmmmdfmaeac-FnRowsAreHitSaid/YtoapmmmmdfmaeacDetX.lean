
/-
  The model's determinant and its steps, purely.
-/
import Derived.Test.YtoapmmmmdfmaeacRowsC
namespace Go.Proofs.Ytoapmmmmdfmaeac
set_option linter.unusedVariables false

def inB (x : Int) : Bool := decide (-10000000 ≤ x ∧ x ≤ 10000000)
def matIn (M : Mat) : Bool := M.all fun r => r.all inB
def pivP (M : Mat) (k : Nat) : Nat → Nat → Nat
  | 0, p => p
  | f + 1, p => if matAt M p k = 0 then pivP M k f (p + 1) else p
def swapP (M : Mat) (p k : Nat) : Mat := (M.set p (M[k]?.getD [])).set k (M[p]?.getD [])
def elimR (k : Nat) (last : Int) (rk ri : List Int) : List Int := (List.range ri.length).map fun j => if j ≤ k then ri[j]?.getD 0 else ((ri[j]?.getD 0) * (rk[k]?.getD 0) - (ri[k]?.getD 0) * (rk[j]?.getD 0)).tdiv last
def elimM (k : Nat) (last : Int) (M : Mat) : Mat := (List.range M.length).map fun i => if i ≤ k then M[i]?.getD [] else elimR k last (M[k]?.getD []) (M[i]?.getD [])
/-- The determinant; none where a number is too great. -/
def detP : Nat → Mat → Int → Int → Option Int
  | 0, M, sign, last => some (sign * last)
  | r + 1, M, sign, last =>
    let n := M.length
    let k := n - (r + 1)
    let p := pivP M k (n - k) k
    if p = n then some 0 else
      let M1 := if p = k then M else swapP M p k
      let s1 := if p = k then sign else -sign
      let M2 := elimM k last M1
      if matIn M2 then detP r M2 s1 (matAt M1 k k) else none
theorem piv_spec (M : Mat) (k n : Nat) : ∀ f p, p + f = n → p ≤ pivP M k f p ∧ pivP M k f p ≤ n ∧ (pivP M k f p < n → matAt M (pivP M k f p) k ≠ 0)
  | 0, p, h => ⟨Nat.le_refl _, by show p ≤ n; omega, fun h' => by have : p < n := h'; omega⟩
  | f + 1, p, h => by
    unfold pivP
    by_cases e : matAt M p k = 0
    · rw [if_pos e]
      obtain ⟨a, b, c⟩ := piv_spec M k n f (p + 1) (by omega)
      exact ⟨by omega, b, c⟩
    · rw [if_neg e]
      exact ⟨Nat.le_refl _, by omega, fun _ => e⟩
theorem piv_step {M : Mat} {k n p : Nat} (h : p < n) : pivP M k (n - p) p = if matAt M p k = 0 then pivP M k (n - (p + 1)) (p + 1) else p := by
  obtain ⟨f, hf⟩ : ∃ f, n - p = f + 1 := ⟨n - p - 1, by omega⟩
  rw [hf, show n - (p + 1) = f by omega]
  rfl
theorem piv_end (M : Mat) (k n : Nat) : pivP M k (n - n) n = n := by rw [Nat.sub_self]; rfl
/-- All numbers are small. -/
def BndM (M : Mat) : Prop := ∀ i j, -10000000 ≤ matAt M i j ∧ matAt M i j ≤ 10000000
theorem bnd_of {M : Mat} (h : matIn M = true) : BndM M := fun i j => by
  unfold matAt
  cases hi : M[i]? with
  | none => simp
  | some r =>
    simp only [Option.getD_some]
    cases hj : r[j]? with
    | none => simp
    | some x =>
      simp only [Option.getD_some]
      have h1 := List.all_eq_true.1 h r (List.mem_of_getElem? hi)
      have h2 := List.all_eq_true.1 h1 x (List.mem_of_getElem? hj)
      unfold inB at h2
      exact of_decide_eq_true h2
theorem mul_bdM {a b : Int} (ha : -10000000 ≤ a ∧ a ≤ 10000000) (hb : -10000000 ≤ b ∧ b ≤ 10000000) : -100000000000000 ≤ a * b ∧ a * b ≤ 100000000000000 := by
  have h1 : a.natAbs * b.natAbs ≤ 10000000 * 10000000 := Nat.mul_le_mul (by omega) (by omega)
  have h2 : (a * b).natAbs = a.natAbs * b.natAbs := Int.natAbs_mul a b
  omega
theorem tdiv_bdM {a b : Int} (ha : -200000000000000 ≤ a ∧ a ≤ 200000000000000) : -200000000000000 ≤ Int.tdiv a b ∧ Int.tdiv a b ≤ 200000000000000 := by
  have h1 : (Int.tdiv a b).natAbs = a.natAbs / b.natAbs := Int.natAbs_tdiv a b
  have h2 : a.natAbs / b.natAbs ≤ a.natAbs := Nat.div_le_self _ _
  omega
/-- Two exchanged. -/
def sg (p k i : Nat) : Nat := if i = k then p else if i = p then k else i
theorem sg_lt {p k i n : Nat} (hp : p < n) (hk : k < n) (hi : i < n) : sg p k i < n := by unfold sg; split <;> (try split) <;> omega
theorem sg_inj {p k i j : Nat} (h : sg p k i = sg p k j) : i = j := by unfold sg at h; split at h <;> split at h <;> (try split at h) <;> (try split at h) <;> omega
theorem swap_at {α : Type} {l : List α} {p k : Nat} {x y : α} (hp : l[p]? = some x) (hk : l[k]? = some y) (i : Nat) (hi : i < l.length) : ((l.set p y).set k x)[i]? = l[sg p k i]? := by
  have hpl := (List.getElem?_eq_some_iff.1 hp).1
  have hkl := (List.getElem?_eq_some_iff.1 hk).1
  unfold sg
  by_cases e : i = k
  · subst e
    rw [if_pos rfl, List.getElem?_set_self (by simpa using hkl), hp]
  · rw [if_neg e, List.getElem?_set_ne (fun h => e h.symm)]
    by_cases e' : i = p
    · subst e'
      rw [if_pos rfl, List.getElem?_set_self hpl, hk]
    · rw [if_neg e', List.getElem?_set_ne (fun h => e' h.symm)]
theorem swapM_at {M : Mat} {p k : Nat} (hp : p < M.length) (hk : k < M.length) (i : Nat) (hi : i < M.length) : (swapP M p k)[i]? = M[sg p k i]? := by
  unfold swapP
  exact swap_at (by rw [List.getElem?_eq_getElem hp]; rfl) (by rw [List.getElem?_eq_getElem hk]; rfl) i hi
theorem swapM_len (M : Mat) (p k : Nat) : (swapP M p k).length = M.length := by simp [swapP]
theorem swapM_mat {M : Mat} {p k : Nat} (hp : p < M.length) (hk : k < M.length) (i j : Nat) (hi : i < M.length) : matAt (swapP M p k) i j = matAt M (sg p k i) j := by
  unfold matAt
  rw [swapM_at hp hk i hi]
theorem swapM_bnd {M : Mat} {p k : Nat} (hp : p < M.length) (hk : k < M.length) (h : BndM M) : BndM (swapP M p k) := fun i j => by
  by_cases hi : i < M.length
  · rw [swapM_mat hp hk i j hi]; exact h _ _
  · unfold matAt
    rw [show (swapP M p k)[i]? = none from List.getElem?_eq_none (by rw [swapM_len]; omega)]
    simp
/-- A row that is reckoned up to column j. -/
def midR (k : Nat) (last : Int) (rk ri : List Int) (j : Nat) : List Int := (List.range ri.length).map fun b => if b < j then (elimR k last rk ri)[b]?.getD 0 else ri[b]?.getD 0
def midM (k : Nat) (last : Int) (M : Mat) (i j : Nat) : Mat := (List.range M.length).map fun a => if a < i then (elimM k last M)[a]?.getD [] else if a = i then midR k last (M[k]?.getD []) (M[a]?.getD []) j else M[a]?.getD []
theorem elimR_at {k : Nat} {last : Int} {rk ri : List Int} {b : Nat} (h : b < ri.length) : (elimR k last rk ri)[b]?.getD 0 = if b ≤ k then ri[b]?.getD 0 else ((ri[b]?.getD 0) * (rk[k]?.getD 0) - (ri[k]?.getD 0) * (rk[b]?.getD 0)).tdiv last := by
  simp [elimR, List.getElem?_map, List.getElem?_range h]
theorem elimR_len (k : Nat) (last : Int) (rk ri : List Int) : (elimR k last rk ri).length = ri.length := by simp [elimR]
theorem elimM_at {k : Nat} {last : Int} {M : Mat} {a : Nat} (h : a < M.length) : (elimM k last M)[a]?.getD [] = if a ≤ k then M[a]?.getD [] else elimR k last (M[k]?.getD []) (M[a]?.getD []) := by
  simp [elimM, List.getElem?_map, List.getElem?_range h]
theorem elimM_len (k : Nat) (last : Int) (M : Mat) : (elimM k last M).length = M.length := by simp [elimM]
theorem midR_len (k : Nat) (last : Int) (rk ri : List Int) (j : Nat) : (midR k last rk ri j).length = ri.length := by simp [midR]
theorem midR_at {k : Nat} {last : Int} {rk ri : List Int} {j b : Nat} (h : b < ri.length) : (midR k last rk ri j)[b]?.getD 0 = if b < j then (elimR k last rk ri)[b]?.getD 0 else ri[b]?.getD 0 := by
  simp [midR, List.getElem?_map, List.getElem?_range h]
theorem row_ext {l m : List Int} (hl : l.length = m.length) (h : ∀ b, b < l.length → l[b]?.getD 0 = m[b]?.getD 0) : l = m := by
  apply List.ext_getElem hl
  intro b h1 h2
  have := h b h1
  rwa [List.getElem?_eq_getElem h1, List.getElem?_eq_getElem h2] at this
theorem mat_ext {l m : Mat} (hl : l.length = m.length) (h : ∀ b, b < l.length → l[b]?.getD [] = m[b]?.getD []) : l = m := by
  apply List.ext_getElem hl
  intro b h1 h2
  have := h b h1
  rwa [List.getElem?_eq_getElem h1, List.getElem?_eq_getElem h2] at this
theorem midR_start (k : Nat) (last : Int) (rk ri : List Int) : midR k last rk ri (k + 1) = ri := row_ext (midR_len ..) fun b hb => by
  rw [midR_len] at hb
  rw [midR_at hb, elimR_at hb]
  by_cases e : b < k + 1
  · rw [if_pos e, if_pos (by omega)]
  · rw [if_neg e]
theorem midR_end (k : Nat) (last : Int) (rk ri : List Int) {n : Nat} (hn : ri.length = n) : midR k last rk ri n = elimR k last rk ri := row_ext (by rw [midR_len, elimR_len]) fun b hb => by
  rw [midR_len] at hb
  rw [midR_at hb, if_pos (by omega)]
theorem midR_set {k : Nat} {last : Int} {rk ri : List Int} {j : Nat} (hj : j < ri.length) (hk : k < j) : (midR k last rk ri j).set j (((ri[j]?.getD 0) * (rk[k]?.getD 0) - (ri[k]?.getD 0) * (rk[j]?.getD 0)).tdiv last) = midR k last rk ri (j + 1) := row_ext (by simp [midR]) fun b hb => by
  rw [List.length_set, midR_len] at hb
  rw [midR_at hb]
  by_cases e : b = j
  · subst e
    rw [List.getElem?_set_self (by rw [midR_len]; exact hb), if_pos (by omega), elimR_at hb, if_neg (by omega)]
    rfl
  · rw [List.getElem?_set_ne (fun h => e h.symm), midR_at hb]
    by_cases e' : b < j
    · rw [if_pos e', if_pos (by omega)]
    · rw [if_neg e', if_neg (by omega)]
theorem midM_len (k : Nat) (last : Int) (M : Mat) (i j : Nat) : (midM k last M i j).length = M.length := by simp [midM]
theorem midM_at {k : Nat} {last : Int} {M : Mat} {i j a : Nat} (h : a < M.length) : (midM k last M i j)[a]?.getD [] = if a < i then (elimM k last M)[a]?.getD [] else if a = i then midR k last (M[k]?.getD []) (M[a]?.getD []) j else M[a]?.getD [] := by
  simp [midM, List.getElem?_map, List.getElem?_range h]
theorem midM_start (k : Nat) (last : Int) (M : Mat) : midM k last M (k + 1) (k + 1) = M := mat_ext (midM_len ..) fun a ha => by
  rw [midM_len] at ha
  rw [midM_at ha]
  by_cases e : a < k + 1
  · rw [if_pos e, elimM_at ha, if_pos (by omega)]
  · rw [if_neg e]
    by_cases e' : a = k + 1
    · subst e'; rw [if_pos rfl, midR_start]
    · rw [if_neg e']
theorem midM_next {k : Nat} {last : Int} {M : Mat} {n i : Nat} (hi : k < i) (hl : ∀ a, a < M.length → (M[a]?.getD []).length = n) : midM k last M i n = midM k last M (i + 1) (k + 1) := mat_ext (by rw [midM_len, midM_len]) fun a ha => by
  rw [midM_len] at ha
  rw [midM_at ha, midM_at ha]
  by_cases e : a < i
  · rw [if_pos e, if_pos (by omega)]
  · rw [if_neg e]
    by_cases e' : a = i
    · subst e'
      rw [if_pos rfl, if_pos (by omega), midR_end _ _ _ _ (hl a ha), elimM_at ha, if_neg (by omega)]
    · rw [if_neg e', if_neg (by omega)]
      by_cases e2 : a = i + 1
      · subst e2; rw [if_pos rfl, midR_start]
      · rw [if_neg e2]
theorem midM_end (k : Nat) (last : Int) (M : Mat) {n j : Nat} (hn : M.length = n) : midM k last M n j = elimM k last M := mat_ext (by rw [midM_len, elimM_len]) fun a ha => by
  rw [midM_len] at ha
  rw [midM_at ha, if_pos (by omega)]
theorem midM_set {k : Nat} {last : Int} {M : Mat} {i j : Nat} (hi : i < M.length) (hj : j < (M[i]?.getD []).length) (hk : k < j) :
    (midM k last M i j).set i (((midM k last M i j)[i]?.getD []).set j ((matAt M i j * matAt M k k - matAt M i k * matAt M k j).tdiv last)) = midM k last M i (j + 1) := mat_ext (by rw [List.length_set, midM_len, midM_len]) fun a ha => by
  rw [List.length_set, midM_len] at ha
  rw [midM_at ha]
  by_cases e : a = i
  · subst e
    rw [List.getElem?_set_self (by rw [midM_len]; exact ha), midM_at ha, if_neg (Nat.lt_irrefl a), if_pos rfl, if_neg (Nat.lt_irrefl a), if_pos rfl]
    exact midR_set hj hk
  · rw [List.getElem?_set_ne (fun h => e h.symm), midM_at ha]
    by_cases e' : a < i
    · rw [if_pos e', if_pos e']
    · rw [if_neg e', if_neg e', if_neg e, if_neg e]
/-- What is read on the way. -/
theorem midM_reads {k : Nat} {last : Int} {M : Mat} {i j : Nat} (hki : k < i) (hkj : k < j) (hi : i < M.length) (hj : j < (M[i]?.getD []).length) :
    ((midM k last M i j)[i]?.getD [])[j]?.getD 0 = matAt M i j ∧ ((midM k last M i j)[i]?.getD [])[k]?.getD 0 = matAt M i k ∧ (midM k last M i j)[k]?.getD [] = M[k]?.getD [] := by
  refine ⟨?_, ?_, ?_⟩
  · rw [midM_at hi, if_neg (by omega), if_pos rfl, midR_at hj, if_neg (by omega)]
    rfl
  · rw [midM_at hi, if_neg (by omega), if_pos rfl, midR_at (by omega), if_pos hkj, elimR_at (by omega), if_pos (Nat.le_refl _)]
    rfl
  · rw [midM_at (by omega), if_pos hki, elimM_at (by omega), if_pos (Nat.le_refl _)]
end Go.Proofs.Ytoapmmmmdfmaeac
