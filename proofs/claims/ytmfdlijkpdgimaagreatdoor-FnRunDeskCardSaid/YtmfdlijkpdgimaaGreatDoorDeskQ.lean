
/-
  The desk, purely: an answer has no newline; the answers to the first lines come first.
-/
import Derived.Test.YtmfdlijkpdgimaaGreatDoorDesksM
namespace Go.Proofs.YtmfdlijkpdgimaaGreatDoor
open Go.RowKit
set_option linter.unusedVariables false

def bsL (s : ByteArray) : List UInt8 := s.data.toList
theorem bs_append (a b : ByteArray) : bsL (a ++ b) = bsL a ++ bsL b := by
  unfold bsL
  rw [ByteArray.data_append, Array.toList_append]
theorem bs_len (s : ByteArray) : (bsL s).length = s.size := by
  unfold bsL
  rw [Array.length_toList]
  rfl
theorem bs_extract {s : ByteArray} {i j : Nat} {b : UInt8} (h : b ∈ bsL (s.extract i j)) : b ∈ bsL s := by
  unfold bsL at h ⊢
  rw [ByteArray.data_extract, Array.toList_extract] at h
  simp only [List.extract] at h
  exact List.mem_of_mem_drop (List.mem_of_mem_take h)
theorem at_bs {s : ByteArray} {i : Nat} (h : i < s.size) : atB s i = ((bsL s)[i]'(by rw [bs_len]; exact h)).toNat := by
  rw [← at_is h]
  rfl
/-- A text without a newline. -/
def oneLine (s : ByteArray) : Prop := ∀ b ∈ bsL s, b ≠ 10
theorem one_append {a b : ByteArray} (ha : oneLine a) (hb : oneLine b) : oneLine (a ++ b) := fun x hx => by
  rw [bs_append] at hx
  rcases List.mem_append.1 hx with h | h
  · exact ha x h
  · exact hb x h
theorem one_lit (l : List UInt8) (h : l.all (· != 10) = true) : oneLine ⟨l.toArray⟩ := fun x hx => by
  have hx : x ∈ l := by simpa [bsL] using hx
  have := List.all_eq_true.1 h x hx
  simpa using this
theorem one_dig (d : Nat) : oneLine (digB d) := fun x hx => by
  have := bs_extract hx
  exact one_lit [48, 49, 50, 51, 52, 53, 54, 55, 56, 57] (by decide) x this
theorem one_dec : ∀ f n, oneLine (decF f n)
  | 0, n => one_dig n
  | f + 1, n => by
    unfold decF
    split
    · exact one_dig n
    · exact one_append (one_dec f _) (one_dig _)
theorem one_num (z : Int) : oneLine (numB z) := by
  unfold numB
  split
  · exact one_append (one_lit [45] (by decide)) (one_dec _ _)
  · exact one_dec _ _
theorem one_list (xs : List Int) : ∀ k, oneLine (listB xs k)
  | 0 => one_lit [] rfl
  | k + 1 => by
    unfold listB
    refine one_append ?_ (one_num _)
    split
    · exact one_append (one_list xs k) (one_lit [44] (by decide))
    · exact one_list xs k
theorem one_answer (D : DeskF) (w h : Int) (k : ByteArray) (N : List Int) : oneLine (answerN D w h k N).1 := by
  have t1 : oneLine tDone := one_lit [100, 111, 110, 101] (by decide)
  have t2 : oneLine tWhat := one_lit [119, 104, 97, 116] (by decide)
  have t3 : oneLine tWrong := one_lit [119, 114, 111, 110, 103] (by decide)
  unfold answerN
  repeat' split
  all_goals first | exact t1 | exact t2 | exact t3 | exact one_list _ _ | exact one_num _
/-- How many of the first i bytes are newlines. -/
def nlTo (s : ByteArray) : Nat → Nat
  | 0 => 0
  | i + 1 => nlTo s i + if atB s i = 10 then 1 else 0
def nlL (l : List UInt8) : Nat := (l.filter (· == 10)).length
theorem nl_take (s : ByteArray) : ∀ i, i ≤ s.size → nlTo s i = nlL ((bsL s).take i)
  | 0, _ => by simp [nlTo, nlL]
  | i + 1, h => by
    have hl : i < (bsL s).length := by rw [bs_len]; omega
    unfold nlTo
    rw [nl_take s i (by omega), List.take_succ_eq_append_getElem hl, at_bs (show i < s.size by omega)]
    unfold nlL
    rw [List.filter_append, List.length_append]
    congr 1
    by_cases e : (bsL s)[i] = 10
    · rw [e]; rfl
    · have : ¬ ((bsL s)[i]).toNat = 10 := fun h => e (UInt8.toNat_inj.1 h)
      rw [if_neg this]
      simp [e]
theorem nl_all (s : ByteArray) : nlTo s s.size = nlL (bsL s) := by
  rw [nl_take s s.size (Nat.le_refl _), List.take_of_length_le (by rw [bs_len]; exact Nat.le_refl _)]
theorem nl_none {s : ByteArray} (h : oneLine s) : nlL (bsL s) = 0 := by
  unfold nlL
  rw [List.length_eq_zero_iff, List.filter_eq_nil_iff]
  intro x hx
  simpa using h x hx
theorem desk_lines (D : DeskF) (lines : List ByteArray) : ∀ i, nlL (bsL (deskTo D lines i).1) = i
  | 0 => rfl
  | i + 1 => by
    show nlL (bsL ((deskTo D lines i).1 ++ _ ++ ⟨#[10]⟩)) = i + 1
    rw [bs_append, bs_append]
    unfold nlL
    rw [List.filter_append, List.filter_append, List.length_append, List.length_append]
    have h1 := desk_lines D lines i
    have h2 := nl_none (one_answer D (deskTo D lines i).2.1 (deskTo D lines i).2.2 ((splitB (lines[i]?.getD ⟨#[]⟩) 32)[0]?.getD ⟨#[]⟩) (((splitB (lines[i]?.getD ⟨#[]⟩) 32).drop 1).map readB))
    unfold nlL at h1 h2
    rw [h1]
    unfold answerB
    rw [h2]
    rfl
theorem desk_first (D : DeskF) (lines : List ByteArray) {k : Nat} : ∀ n, k ≤ n → ∃ r, (deskTo D lines n).1 = (deskTo D lines k).1 ++ r
  | 0, h => ⟨⟨#[]⟩, by rw [show k = 0 by omega]; rfl⟩
  | n + 1, h => by
    by_cases e : k = n + 1
    · exact ⟨⟨#[]⟩, by rw [e]; exact (ByteArray.append_empty).symm⟩
    · obtain ⟨r, hr⟩ := desk_first D lines (k := k) n (by omega)
      refine ⟨r ++ (answerB D (deskTo D lines n).2.1 (deskTo D lines n).2.2 (lines[n]?.getD ⟨#[]⟩)).1 ++ ⟨#[10]⟩, ?_⟩
      show (deskTo D lines n).1 ++ _ ++ _ = _
      rw [hr, ByteArray.append_assoc, ByteArray.append_assoc, ByteArray.append_assoc]
theorem desk_take (D : DeskF) (lines : List ByteArray) (k : Nat) : ∀ j, j ≤ k → deskTo D (lines.take k) j = deskTo D lines j
  | 0, _ => rfl
  | j + 1, h => by
    have ih := desk_take D lines k j (by omega)
    unfold deskTo
    rw [ih, List.getElem?_take_of_lt (by omega)]
end Go.Proofs.YtmfdlijkpdgimaaGreatDoor
