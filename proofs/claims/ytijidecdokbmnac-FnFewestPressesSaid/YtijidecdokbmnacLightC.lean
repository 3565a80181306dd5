
/-
  Lights: the model's elimination, step by step, purely.
-/
import Derived.Test.YtijidecdokbmnacLightQ
namespace Go.Proofs.Ytijidecdokbmnac
open Go.RowKit
set_option linter.unusedVariables false

def add2 (a b : Nat) : Nat := (a + b) % 2
theorem set_lt {l : List Nat} {m a : Nat} (h : ∀ i : Nat, l[i]?.getD 0 < m) (ha : a < m) (k i : Nat) : (l.set k a)[i]?.getD 0 < m := by
  by_cases e : k = i
  · subst e
    rcases Nat.lt_or_ge k l.length with hk | hk
    · rw [List.getElem?_set_self hk]; exact ha
    · rw [List.getElem?_eq_none (by simpa using hk)]
      have := h l.length
      rw [List.getElem?_eq_none (Nat.le_refl _)] at this
      exact this
  · rw [List.getElem?_set_ne e]; exact h i
theorem swap_lt {l : List Nat} {m : Nat} (h : ∀ i : Nat, l[i]?.getD 0 < m) (p q i : Nat) : (swapG 0 l p q)[i]?.getD 0 < m := set_lt (fun i => set_lt h (h q) p i) (h p) q i
theorem swap_len (l : List Nat) (p q : Nat) : (swapG 0 l p q).length = l.length := by simp [swapG]
theorem clrR_len (R : List Nat) (a c : Nat) : ∀ i, (clrR R a c i).length = R.length
  | 0 => rfl
  | i + 1 => by
    simp only [clrR]
    split
    · rw [List.length_set]; exact clrR_len R a c i
    · exact clrR_len R a c i
theorem clrR_lt {R : List Nat} {m : Nat} (h : ∀ i : Nat, R[i]?.getD 0 < 2 ^ m) (a c : Nat) : ∀ i j : Nat, (clrR R a c i)[j]?.getD 0 < 2 ^ m
  | 0, j => h j
  | i + 1, j => by
    simp only [clrR]
    split
    · exact set_lt (clrR_lt h a c i) (Nat.xor_lt_two_pow (clrR_lt h a c i i) (clrR_lt h a c i a)) i j
    · exact clrR_lt h a c i j
theorem clrG_len (R G : List Nat) (a c : Nat) : ∀ i, (clrG add2 0 R G a c i).length = G.length
  | 0 => rfl
  | i + 1 => by
    simp only [clrG]
    split
    · rw [List.length_set]; exact clrG_len R G a c i
    · exact clrG_len R G a c i
theorem clrG_lt {R G : List Nat} (h : ∀ i : Nat, G[i]?.getD 0 < 2) (a c : Nat) : ∀ i j : Nat, (clrG add2 0 R G a c i)[j]?.getD 0 < 2
  | 0, j => h j
  | i + 1, j => by
    simp only [clrG]
    split
    · exact set_lt (clrG_lt h a c i) (Nat.mod_lt _ (by omega)) i j
    · exact clrG_lt h a c i j
theorem piv_bd (rows : List Nat) (c : Nat) : ∀ f p, p ≤ pivP rows c f p ∧ pivP rows c f p ≤ p + f
  | 0, p => ⟨Nat.le_refl _, Nat.le_refl _⟩
  | f + 1, p => by
    simp only [pivP]
    split
    · have := piv_bd rows c f (p + 1); omega
    · omega

structure ElimOk (n : Nat) (S : Elim Nat) : Prop where
  rl : S.rows.length = n
  gl : S.right.length = n
  rb : ∀ i : Nat, S.rows[i]?.getD 0 < 2 ^ 12
  gb : ∀ i : Nat, S.right[i]?.getD 0 < 2
  ll : S.lead.length ≤ n
  lb : ∀ i : Nat, S.lead[i]?.getD 0 ≤ 12
def colX (n : Nat) (S : Elim Nat) (c : Nat) : Elim Nat := colG add2 0 n S c
theorem col_ok {n : Nat} {S : Elim Nat} (h : ElimOk n S) {c : Nat} (hc : c ≤ 12) : ElimOk n (colX n S c) := by
  unfold colX colG
  split
  · exact h
  · rename_i hp
    have hb := piv_bd S.rows c (n - S.lead.length) S.lead.length
    have hl := h.ll
    refine ⟨?_, ?_, ?_, ?_, ?_, ?_⟩
    · rw [clrR_len, swap_len]; exact h.rl
    · rw [clrG_len, swap_len]; exact h.gl
    · exact clrR_lt (fun i => swap_lt h.rb _ _ i) _ _ _
    · exact clrG_lt (fun i => swap_lt h.gb _ _ i) _ _ _
    · simp only [List.length_append, List.length_cons, List.length_nil]; omega
    · intro i
      rcases Nat.lt_trichotomy i S.lead.length with hi | hi | hi
      · rw [List.getElem?_append_left hi]; exact h.lb i
      · rw [hi, List.getElem?_append_right (Nat.le_refl _), Nat.sub_self]; exact hc
      · rw [List.getElem?_eq_none (by simp; omega)]; exact Nat.zero_le _
def elimX (L : List Nat) (x : Nat) : Nat → Elim Nat
  | 0 => startX L x
  | c + 1 => colX L.length (elimX L x c) c
theorem elimX_eq (L : List Nat) (x : Nat) : ∀ c, elimX L x c = elimTo (fun a b => (a + b) % 2) 0 L.length (startX L x) c
  | 0 => rfl
  | c + 1 => by
    simp only [elimX, elimTo]
    rw [elimX_eq L x c]
    rfl
theorem elim_ok {L : List Nat} (hb : ∀ i : Nat, L[i]?.getD 0 < 2 ^ 12) (x : Nat) : ∀ c, c ≤ 12 → ElimOk L.length (elimX L x c)
  | 0, _ => ⟨rfl, by simp [elimX, startX], hb, fun i => by
      show ((List.range L.length).map fun k => bitN x k)[i]?.getD 0 < 2
      rw [List.getElem?_map]
      rcases Nat.lt_or_ge i L.length with hi | hi
      · rw [List.getElem?_range hi]; have := bitN_two x i; simp; omega
      · rw [List.getElem?_eq_none (by simpa using hi)]; simp, Nat.zero_le _, fun i => by simp [elimX, startX]⟩
  | c + 1, hc => col_ok (elim_ok hb x c (by omega)) (by omega)
/-- The two ways of a column. -/
theorem col_none {n : Nat} {S : Elim Nat} {c : Nat} (h : pivP S.rows c (n - S.lead.length) S.lead.length = n) : colX n S c = S := if_pos h
theorem col_some {n : Nat} {S : Elim Nat} {c p : Nat} (h : pivP S.rows c (n - S.lead.length) S.lead.length = p) (hp : p ≠ n) : colX n S c =
    ⟨clrR (swapG 0 S.rows p S.lead.length) S.lead.length c n, clrG add2 0 (swapG 0 S.rows p S.lead.length) (swapG 0 S.right p S.lead.length) S.lead.length c n, S.lead ++ [c]⟩ := by
  unfold colX colG
  rw [h, if_neg hp]
theorem colTo_lt {rows lead : List Nat} (c : Nat) (hc : c ≤ 12) (hlb : ∀ i : Nat, lead[i]?.getD 0 ≤ 12) : ∀ i, colTo rows lead c i ≤ 4096 * (i + 1)
  | 0 => by
    have : 2 ^ c ≤ 2 ^ 12 := Nat.pow_le_pow_right (by omega) hc
    simp only [colTo]
    omega
  | i + 1 => by
    have ih := colTo_lt (rows := rows) c hc hlb i
    have h1 : 2 ^ (lead[i]?.getD 0) ≤ 2 ^ 12 := Nat.pow_le_pow_right (by omega) (hlb i)
    simp only [colTo]
    rcases bitN_two (rows[i]?.getD 0) c with e | e <;> rw [e] <;> omega
theorem sumTo_lt {right lead : List Nat} (hgb : ∀ i : Nat, right[i]?.getD 0 < 2) (hlb : ∀ i : Nat, lead[i]?.getD 0 ≤ 12) : ∀ i, sumTo right lead i ≤ 4096 * i
  | 0 => Nat.le_refl _
  | i + 1 => by
    have ih := sumTo_lt hgb hlb i
    have h1 : 2 ^ (lead[i]?.getD 0) ≤ 2 ^ 12 := Nat.pow_le_pow_right (by omega) (hlb i)
    have h2 := hgb i
    simp only [sumTo]
    have : right[i]?.getD 0 = 0 ∨ right[i]?.getD 0 = 1 := by omega
    rcases this with e | e <;> rw [e] <;> omega
theorem good_down {right : List Nat} {a : Nat} : ∀ {k j : Nat}, j ≤ k → goodTo right a k = true → goodTo right a j = true
  | 0, j, h, hg => by rw [Nat.le_zero.1 h]; rfl
  | k + 1, j, h, hg => by
    by_cases e : j = k + 1
    · rw [e]; exact hg
    · simp only [goodTo, Bool.and_eq_true] at hg
      exact good_down (by omega) hg.1
end Go.Proofs.Ytijidecdokbmnac
