
/-
  Queens, purely: who stands apart; the rows of queens that begin with some.
-/
namespace Go.Proofs.Ytlccohoblplddad
set_option linter.unusedVariables false

/-- A queen in column c of the next row goes with the one in row i. -/
def withP (head : List Int) (c : Int) (i : Nat) : Bool :=
  !(head[i]?.getD 0 == c || head[i]?.getD 0 - c == (head.length : Int) - (i : Int) || c - head[i]?.getD 0 == (head.length : Int) - (i : Int))
def apartP (head : List Int) (c : Int) : Bool := (List.range head.length).all (withP head c)
/-- The first k are apart from it. -/
def apartTo (head : List Int) (c : Int) (k : Nat) : Prop := ∀ i, i < k → withP head c i = true
theorem apart_all {head : List Int} {c : Int} (h : apartTo head c head.length) : apartP head c = true := by
  simp only [apartP, List.all_eq_true, List.mem_range]
  exact h
theorem apart_not {head : List Int} {c : Int} {k : Nat} (hk : k < head.length) (h : withP head c k = false) : apartP head c = false := by
  rw [← Bool.not_eq_true]
  intro ha
  simp only [apartP, List.all_eq_true, List.mem_range] at ha
  rw [ha k hk] at h
  cases h
/-- The rows of queens that begin with head, m rows being left of n. -/
def queensP (n : Nat) : Nat → List Int → List (List Int)
  | 0, head => [head]
  | m + 1, head => (List.range n).flatMap fun (c : Nat) => if apartP head (c : Int) then queensP n m (head ++ [(c : Int)]) else []
/-- The first cn columns have come. -/
def queensTo (n m : Nat) (head : List Int) (cn : Nat) : List (List Int) := (List.range cn).flatMap fun (c : Nat) => if apartP head (c : Int) then queensP n m (head ++ [(c : Int)]) else []
theorem queensTo_succ (n m : Nat) (head : List Int) (cn : Nat) : queensTo n m head (cn + 1) = queensTo n m head cn ++ (if apartP head (cn : Int) then queensP n m (head ++ [(cn : Int)]) else []) := by
  simp [queensTo, List.range_succ, List.flatMap_append]
theorem queensTo_all (n m : Nat) (head : List Int) : queensTo n m head n = queensP n (m + 1) head := rfl
theorem flat_len {α : Type} (f : Nat → List α) (b : Nat) : ∀ (k : Nat), (∀ c, (f c).length ≤ b) → ((List.range k).flatMap f).length ≤ k * b
  | 0, _ => by simp
  | k + 1, h => by
    have := flat_len f b k h
    have := h k
    rw [List.range_succ, List.flatMap_append, List.length_append, Nat.add_mul]
    simp only [List.flatMap_cons, List.flatMap_nil, List.append_nil]
    omega
theorem queens_len (n : Nat) : ∀ (m : Nat) (head : List Int), (queensP n m head).length ≤ n ^ m
  | 0, _ => by simp [queensP]
  | m + 1, head => by
    rw [queensP, Nat.pow_succ, Nat.mul_comm]
    refine flat_len _ (n ^ m) n fun c => ?_
    split
    · exact queens_len n m _
    · simp
theorem queens_rows (n : Nat) : ∀ (m : Nat) (head : List Int) (x : List Int), x ∈ queensP n m head → x.length = head.length + m
  | 0, head, x, h => by
    simp only [queensP, List.mem_singleton] at h
    subst h; rfl
  | m + 1, head, x, h => by
    simp only [queensP, List.mem_flatMap, List.mem_range] at h
    obtain ⟨c, _, hx⟩ := h
    split at hx
    · have := queens_rows n m _ x hx
      simp only [List.length_append, List.length_cons, List.length_nil] at this
      omega
    · simp at hx
end Go.Proofs.Ytlccohoblplddad
