/-
  PDeskA, PDeskB in one text.
-/
import Derived.Test.YtmfdlijkpdgimaaGreatDoorDesksM
import Derived.Lib.SplitLaws
import Derived.Lib.IndexBytes
import Derived.Lib.IndexLaws
import Derived.Lib.Join
import Derived.Lib.ItoaNum
import Derived.Lib.AtoiAllCases
/-
  The desk, the program's words purely: the pieces of a line, numerals, joined texts.
-/
namespace Go.Proofs.YtmfdlijkpdgimaaGreatDoor
open Go.RowKit
set_option linter.unusedVariables false

/-! ### The pieces of a line -/
theorem at_list (s : ByteArray) (i : Nat) : atB s i = ((s.data.toList[i]?).map UInt8.toNat).getD 0 := by
  unfold atB
  split
  · rename_i h
    have h' : i < s.data.toList.length := by simpa using h
    rw [List.getElem?_eq_getElem h', Option.map_some, Option.getD_some]
    rfl
  · rename_i h
    have h' : s.data.toList.length ≤ i := by
      have : s.data.toList.length = s.size := by simp
      omega
    rw [List.getElem?_eq_none h']
    rfl
theorem size_list (s : ByteArray) : s.data.toList.length = s.size := by simp
theorem at_ext (s : ByteArray) (a j : Nat) : atB (s.extract a s.size) j = atB s (a + j) := by
  rw [at_list, at_list, Lib.extract_to_end, List.getElem?_drop]
theorem ext_ext (s : ByteArray) (a x y : Nat) (hy : a + y ≤ s.size) : (s.extract a s.size).extract x y = s.extract (a + x) (a + y) := by
  rw [ByteArray.extract_extract]
  congr 1
  omega
theorem cut_none {s : ByteArray} {c : Nat} : ∀ i, (∀ j, j < i → atB s j ≠ c) → cutTo s c i = ([], 0)
  | 0, _ => rfl
  | i + 1, h => by
    unfold cutTo
    rw [if_neg (h i (Nat.lt_succ_self i))]
    exact cut_none i fun j hj => h j (by omega)
theorem cut_shift {s : ByteArray} {c i : Nat} (hn : ∀ j, j < i → atB s j ≠ c) (hc : atB s i = c) (hi : i < s.size) : ∀ j, i + 1 + j ≤ s.size →
    cutTo s c (i + 1 + j) = (s.extract 0 i :: (cutTo (s.extract (i + 1) s.size) c j).1, i + 1 + (cutTo (s.extract (i + 1) s.size) c j).2)
  | 0, _ => by
    show (if atB s i = c then ((cutTo s c i).1 ++ [s.extract (cutTo s c i).2 i], i + 1) else cutTo s c i) = _
    rw [if_pos hc, cut_none i hn]
    rfl
  | j + 1, h => by
    have ih := cut_shift hn hc hi j (by omega)
    have hl := (cut_le (s.extract (i + 1) s.size) c j).1
    show (if atB s (i + 1 + j) = c then ((cutTo s c (i + 1 + j)).1 ++ [s.extract (cutTo s c (i + 1 + j)).2 (i + 1 + j)], i + 1 + j + 1) else cutTo s c (i + 1 + j)) = (s.extract 0 i :: (if atB (s.extract (i + 1) s.size) j = c then ((cutTo (s.extract (i + 1) s.size) c j).1 ++ [(s.extract (i + 1) s.size).extract (cutTo (s.extract (i + 1) s.size) c j).2 j], j + 1) else cutTo (s.extract (i + 1) s.size) c j).1, i + 1 + (if atB (s.extract (i + 1) s.size) j = c then ((cutTo (s.extract (i + 1) s.size) c j).1 ++ [(s.extract (i + 1) s.size).extract (cutTo (s.extract (i + 1) s.size) c j).2 j], j + 1) else cutTo (s.extract (i + 1) s.size) c j).2)
    rw [at_ext, ih]
    split
    · rw [ext_ext s (i + 1) _ j (by omega)]
      rfl
    · rfl
theorem split_hit {s : ByteArray} {c i : Nat} (hn : ∀ j, j < i → atB s j ≠ c) (hc : atB s i = c) (hi : i < s.size) : splitB s c = s.extract 0 i :: splitB (s.extract (i + 1) s.size) c := by
  have hz : (s.extract (i + 1) s.size).size = s.size - (i + 1) := by rw [ByteArray.size_extract]; omega
  have h := cut_shift hn hc hi (s.size - (i + 1)) (by omega)
  rw [show i + 1 + (s.size - (i + 1)) = s.size by omega] at h
  unfold splitB
  rw [hz, h, ext_ext s (i + 1) _ (s.size - (i + 1)) (by omega), show i + 1 + (s.size - (i + 1)) = s.size by omega]
  rfl
theorem split_miss {s : ByteArray} {c : Nat} (hn : ∀ j, j < s.size → atB s j ≠ c) : splitB s c = [s] := by
  unfold splitB
  rw [cut_none s.size hn]
  simp
def tSpace : ByteArray := ⟨#[32]⟩
theorem idx_space (s : ByteArray) : Lib.indexB s tSpace = Lib.indexByte s.data.toList 32 := Lib.index_one _ _
theorem at_ne {s : ByteArray} {j : Nat} (h : s.data.toList[j]? ≠ some 32) : atB s j ≠ 32 := by
  rw [at_list]
  cases hq : s.data.toList[j]? with
  | none => simp
  | some b =>
    rw [hq] at h
    intro e
    exact h (by rw [show b = 32 from UInt8.toNat_inj.1 (by simpa using e)])
theorem split_lib : ∀ (n : Nat) (s : ByteArray), s.size ≤ n → Lib.splitB tSpace 0 (Lib.countB s tSpace) s = splitB s 32 := by
  intro n
  induction n with
  | zero =>
    intro s hs
    rcases Lib.indexB_cases s tSpace with hix | ⟨i, hix, hr⟩
    · rw [Lib.countB_miss s tSpace hix, Lib.splitB_zero, split_miss fun j hj => by omega]
    · have : tSpace.size = 1 := rfl
      omega
  | succ n ih =>
    intro s hs
    rcases Lib.indexB_cases s tSpace with hix | ⟨i, hix, hr⟩
    · rw [Lib.countB_miss s tSpace hix, Lib.splitB_zero]
      rw [idx_space] at hix
      rw [split_miss fun j _ => at_ne (Lib.indexByte_none hix j)]
    · have h1 : tSpace.size = 1 := rfl
      have hc := Lib.countB_hit s tSpace i (by omega) hix
      rw [Nat.add_comm] at hc
      rw [hc, Lib.splitB_hit tSpace 0 _ s i hix, h1, ih _ (by rw [ByteArray.size_extract]; omega)]
      rw [idx_space] at hix
      obtain ⟨g1, g2⟩ := Lib.indexByte_some hix
      rw [split_hit (s := s) (c := 32) (i := i) (fun j hj => at_ne (g2 j hj)) (by rw [at_list, g1]; rfl) (by omega)]
      rfl

/-! ### Numerals -/
theorem dig_data : ∀ d : Fin 10, (digB d.val).data.toList = [UInt8.ofNat (48 + d.val)] := by decide +kernel
theorem dec_data : ∀ f n, n < 10 ^ (f + 1) → (decF f n).data.toList = Lib.decDigits n
  | 0, n, h => by
    rw [Lib.decDigits, dif_pos (by omega)]
    exact dig_data ⟨n, by omega⟩
  | f + 1, n, h => by
    unfold decF
    split
    · rename_i h10
      rw [Lib.decDigits, dif_pos h10]
      exact dig_data ⟨n, h10⟩
    · rename_i h10
      rw [Lib.decDigits, dif_neg h10, ByteArray.data_append, Array.toList_append, dec_data f (n / 10) (by
        rw [Nat.pow_succ] at h
        omega)]
      rw [show (digB (n % 10)).data.toList = [UInt8.ofNat (48 + n % 10)] from dig_data ⟨n % 10, Nat.mod_lt _ (by omega)⟩]
theorem num_data {z : Int} (hz : small18 z) : (numB z).data.toList = Lib.itoa z := by
  obtain ⟨h1, h2⟩ := hz
  unfold numB Lib.itoa
  split
  · rw [ByteArray.data_append, Array.toList_append, dec_data 17 _ (by
      have : (10 : Nat) ^ (17 + 1) = 1000000000000000000 := by decide
      omega), show (-z).toNat = z.natAbs by omega]
    rfl
  · exact dec_data 17 _ (by
      have : (10 : Nat) ^ (17 + 1) = 1000000000000000000 := by decide
      omega)
theorem num_arr {z : Int} (hz : small18 z) : (⟨(Lib.itoa z).toArray⟩ : ByteArray) = numB z := by
  rw [← num_data hz]

/-! ### Texts joined by commas -/
theorem join_snoc (x : List UInt8) (sep : List UInt8) : ∀ (l : List (List UInt8)), l ≠ [] → Lib.join (l ++ [x]) sep = Lib.join l sep ++ (sep ++ x)
  | [], h => absurd rfl h
  | y :: r, _ => by
    rw [List.cons_append, Lib.join_cons, Lib.join_cons]
    unfold Lib.joinTail
    simp
theorem list_join (xs : List Int) (hx : ∀ i, i < xs.length → small18 (xs[i]?.getD 0)) : ∀ k, k ≤ xs.length → (listB xs k).data.toList = Lib.join ((xs.take k).map Lib.itoa) [44]
  | 0, _ => by rw [List.take_zero]; rfl
  | k + 1, hk => by
    have ih := list_join xs hx k (by omega)
    have hk' : k < xs.length := by omega
    have hn := num_data (hx k hk')
    have ht : xs.take (k + 1) = xs.take k ++ [xs[k]] := List.take_succ_eq_append_getElem hk'
    have hg : xs[k]?.getD 0 = xs[k] := by rw [List.getElem?_eq_getElem hk', Option.getD_some]
    rw [hg] at hn
    unfold listB
    rw [ht, List.map_append, List.map_cons, List.map_nil, hg, ByteArray.data_append, Array.toList_append, hn]
    split
    · rename_i h0
      rw [join_snoc _ _ _ (by
        intro e
        rcases List.take_eq_nil_iff.1 (List.map_eq_nil_iff.1 e) with h1 | h1
        · omega
        · rw [h1] at hk'
          exact absurd hk' (by simp)), ByteArray.data_append, Array.toList_append, ih]
      simp
    · rename_i h0
      have : k = 0 := by omega
      subst this
      rw [ih, List.take_zero, List.map_nil, List.nil_append, Lib.join_one]
      rfl
end Go.Proofs.YtmfdlijkpdgimaaGreatDoor

/-
  The desk, the program's words purely: which word is a number, and what a line is answered.
-/
namespace Go.Proofs.YtmfdlijkpdgimaaGreatDoor
open Go.RowKit
set_option linter.unusedVariables false

theorem ba_list (s : ByteArray) : s.toList = s.data.toList := by
  exact ByteArray.toList_eq s
theorem ba_eq {s t : ByteArray} (h : s.toList = t.toList) : s = t := by
  rw [ba_list, ba_list] at h
  exact ByteArray.ext (Array.toList_inj.1 h)
/-- What Atoi reads, where it is written so. -/
def numZ (s : ByteArray) : Option Int := match Lib.atoiAll s.data.toList with
  | .ok v => if (⟨(Lib.itoa v).toArray⟩ : ByteArray) = s then some v else none
  | _ => none
def numsTo (ws : List ByteArray) : Nat → Option (List Int)
  | 0 => some []
  | i + 1 => match numsTo ws i with
    | none => none
    | some L => match numZ (ws[i]?.getD ⟨#[]⟩) with
      | none => none
      | some v => some (L ++ [v])
theorem nums_len (ws : List ByteArray) : ∀ i L, numsTo ws i = some L → L.length = i
  | 0, L, h => by injection h with h; subst h; rfl
  | i + 1, L, h => by
    unfold numsTo at h
    cases hp : numsTo ws i with
    | none => rw [hp] at h; cases h
    | some M =>
      rw [hp] at h
      simp only at h
      cases hz : numZ (ws[i]?.getD ⟨#[]⟩) with
      | none => rw [hz] at h; cases h
      | some v =>
        rw [hz] at h
        injection h with h
        subst h
        simp [nums_len ws i M hp]
theorem nums_none {ws : List ByteArray} {i : Nat} (h : numsTo ws i = none) : ∀ j, i ≤ j → numsTo ws j = none
  | 0, hj => by rwa [show i = 0 by omega] at h
  | j + 1, hj => by
    by_cases e : i = j + 1
    · rwa [e] at h
    · unfold numsTo
      rw [nums_none h j (by omega)]
def tabOk (n : Nat) : Bool := readB (numB n) == (n : Int) && Lib.atoiAll (numB n).data.toList == .ok (n : Int)
theorem read_tab0 : ((List.range 512).all fun n => tabOk (0 + n)) = true := by decide +kernel
theorem read_tab1 : ((List.range 512).all fun n => tabOk (512 + n)) = true := by decide +kernel
theorem read_tab2 : ((List.range 512).all fun n => tabOk (1024 + n)) = true := by decide +kernel
theorem read_tab3 : ((List.range 512).all fun n => tabOk (1536 + n)) = true := by decide +kernel
theorem read_tab4 : ((List.range 512).all fun n => tabOk (2048 + n)) = true := by decide +kernel
theorem read_tab5 : ((List.range 512).all fun n => tabOk (2560 + n)) = true := by decide +kernel
theorem read_tab6 : ((List.range 512).all fun n => tabOk (3072 + n)) = true := by decide +kernel
theorem read_tab7 : ((List.range 512).all fun n => tabOk (3584 + n)) = true := by decide +kernel
theorem tab_at {n : Nat} (h : n ≤ 4095) : readB (numB n) = n ∧ Lib.atoiAll (numB n).data.toList = .ok (n : Int) := by
  have key : tabOk n = true := by
    have h0 := fun (a : Nat) (ha : ((List.range 512).all fun n => tabOk (a + n)) = true) (h1 : a ≤ n) (h2 : n < a + 512) => show tabOk n = true by
      have := List.all_eq_true.1 ha (n - a) (List.mem_range.2 (by omega))
      rwa [show a + (n - a) = n by omega] at this
    by_cases c0 : n < 512
    · exact h0 0 read_tab0 (by omega) (by omega)
    by_cases c1 : n < 1024
    · exact h0 512 read_tab1 (by omega) (by omega)
    by_cases c2 : n < 1536
    · exact h0 1024 read_tab2 (by omega) (by omega)
    by_cases c3 : n < 2048
    · exact h0 1536 read_tab3 (by omega) (by omega)
    by_cases c4 : n < 2560
    · exact h0 2048 read_tab4 (by omega) (by omega)
    by_cases c5 : n < 3072
    · exact h0 2560 read_tab5 (by omega) (by omega)
    by_cases c6 : n < 3584
    · exact h0 3072 read_tab6 (by omega) (by omega)
    · exact h0 3584 read_tab7 (by omega) (by omega)
  unfold tabOk at key
  simpa using key
theorem small_n {n : Nat} (h : n ≤ 4095) : small18 (n : Int) := ⟨by omega, by omega⟩
theorem read_of {s : ByteArray} {v : Int} (h : numZ s = some v) (h0 : 0 ≤ v) (h1 : v ≤ 4095) : readB s = v := by
  obtain ⟨n, rfl⟩ : ∃ n : Nat, v = n := ⟨v.toNat, by omega⟩
  unfold numZ at h
  split at h
  · split at h
    · rename_i e
      injection h with h
      subst h
      rw [num_arr (small_n (by omega))] at e
      rw [← e]
      exact (tab_at (by omega)).1
    · cases h
  · cases h
theorem num_of {s : ByteArray} (h : 0 ≤ readB s) (h4 : readB s ≤ 4095) : numZ s = some (readB s) := by
  have hb : readB s = -1 ∨ ∃ n : Nat, (numB n).toList = s.toList ∧ readB s = n := by
    unfold readB
    cases hr : readTo s s.size with
    | none => exact Or.inl rfl
    | some n =>
      simp only
      split
      · exact Or.inl rfl
      · rename_i hc
        exact Or.inr ⟨n, Decidable.byContradiction fun e => hc (Or.inr e), rfl⟩
  rcases hb with hb | ⟨n, he, hb⟩
  · omega
  have hn : n ≤ 4095 := by omega
  rw [hb]
  obtain rfl := ba_eq he
  unfold numZ
  rw [(tab_at hn).2]
  simp only
  rw [if_pos (num_arr (small_n hn))]
theorem nums_one (a : ByteArray) : numsTo [a] 1 = (numZ a).map fun v => [v] := by
  show (match numZ a with | none => none | some v => some ([] ++ [v])) = _
  cases numZ a <;> rfl
theorem nums_two (a b : ByteArray) : numsTo [a, b] 2 = match numZ a, numZ b with | some v, some u => some [v, u] | _, _ => none := by
  show (match (match numZ a with | none => none | some v => some ([] ++ [v])) with | none => none | some L => (match numZ b with | none => none | some v => some (L ++ [v]))) = _
  cases numZ a <;> cases numZ b <;> rfl

/-- How many numbers are behind a word. -/
def needN (k : List UInt8) : Nat := if k = kTile ∨ k = kFold then 0 else if k = kBoard then 2 else 1
def knownB (k : List UInt8) : Bool := k == kBoard || k == kTile || k == kDark || k == kPegs || k == kFold || pieceB k
/-- The answer to the numbers behind a word, and the board behind it; none where there is none. -/
def doN (D : DeskF) (w h : Int) (k : ByteArray) (L : List Int) : Option (ByteArray × Int × Int) :=
  if k.toList = kBoard then (if Brd (nth L 0) (nth L 1) then some (tDone, nth L 0, nth L 1) else none)
  else if k.toList = kTile then some (numB (D.tiles w h), w, h)
  else if k.toList = kDark then (if D.lit w h (nth L 0) = true then some (numB (D.darks w h (nth L 0)), w, h) else none)
  else if k.toList = kPegs then (if D.peg w h (nth L 0) = true then some (numB (D.pegs w h (nth L 0)), w, h) else none)
  else if k.toList = kFold then (if w * h ≤ 9 then some (listB (D.folds w h) (D.folds w h).length, w, h) else none)
  else (if 0 ≤ nth L 0 ∧ nth L 0 ≤ w * h - 1 then some (listB (D.cells w h k (nth L 0)) (D.cells w h k (nth L 0)).length, w, h) else none)
def headB (ws : List ByteArray) : ByteArray := ws[0]?.getD ⟨#[]⟩
/-- What asking comes to: none: no word; none in it: wrong. -/
def askK (D : DeskF) (w h : Int) (k : ByteArray) (rest : List ByteArray) : Option (Option (ByteArray × Int × Int)) :=
  if knownB k.toList = true then
    match numsTo rest rest.length with
    | none => some none
    | some L => if L.length = needN k.toList then some (doN D w h k L) else some none
  else none
def askN (D : DeskF) (w h : Int) (ws : List ByteArray) : Option (Option (ByteArray × Int × Int)) := askK D w h (headB ws) (ws.drop 1)
def sayN (w h : Int) : Option (Option (ByteArray × Int × Int)) → ByteArray × Int × Int
  | none => (tWhat, w, h)
  | some none => (tWrong, w, h)
  | some (some x) => x
theorem nums_any {α : Type} {ws : List ByteArray} {n : Nat} (f : List Int → Option α) (h : ws.length ≠ n) : (match numsTo ws ws.length with | none => some none | some L => if L.length = n then some (f L) else some none) = (some none : Option (Option α)) := by
  cases hq : numsTo ws ws.length with
  | none => rfl
  | some L =>
    have := nums_len ws _ L hq
    simp only
    rw [if_neg (by omega)]
theorem zero_say (w h : Int) (rest : List ByteArray) (q : Prop) [Decidable q] (x : ByteArray × Int × Int) :
    (if (rest.map readB).length = 0 ∧ q then x else (tWrong, w, h)) = sayN w h (match numsTo rest rest.length with | none => some none | some L => if L.length = 0 then some (if q then some x else none) else some none) := by
  by_cases hl : rest.length = 0
  · obtain rfl : rest = [] := List.length_eq_zero_iff.1 hl
    show (if 0 = 0 ∧ q then x else (tWrong, w, h)) = sayN w h (if 0 = 0 then some (if q then some x else none) else some none)
    rw [if_pos rfl]
    by_cases hq : q
    · rw [if_pos (show 0 = 0 ∧ q from ⟨rfl, hq⟩), if_pos hq]; rfl
    · rw [if_neg (fun h => hq h.2), if_neg hq]; rfl
  · rw [nums_any (fun _ => if q then some x else none) hl, if_neg (fun h => hl (by simpa using h.1))]
    rfl
theorem one_say (w h : Int) (rest : List ByteArray) (p : Int → Prop) [DecidablePred p] (hp : ∀ x, p x → 0 ≤ x ∧ x ≤ 4095) (f : Int → ByteArray × Int × Int) :
    (if (rest.map readB).length = 1 ∧ p (nth (rest.map readB) 0) then f (nth (rest.map readB) 0) else (tWrong, w, h)) = sayN w h (match numsTo rest rest.length with | none => some none | some L => if L.length = 1 then some (if p (nth L 0) then some (f (nth L 0)) else none) else some none) := by
  by_cases hl : rest.length = 1
  · obtain ⟨a, rfl⟩ := List.length_eq_one_iff.1 hl
    show (if 1 = 1 ∧ p (readB a) then f (readB a) else (tWrong, w, h)) = sayN w h (match numsTo [a] 1 with | none => some none | some L => if L.length = 1 then some (if p (nth L 0) then some (f (nth L 0)) else none) else some none)
    rw [nums_one]
    cases hz : numZ a with
    | none =>
      rw [if_neg (fun hc => by
        have := num_of (hp _ hc.2).1 (hp _ hc.2).2
        rw [hz] at this
        cases this)]
      rfl
    | some v =>
      show _ = sayN w h (if 1 = 1 then some (if p v then some (f v) else none) else some none)
      rw [if_pos rfl]
      by_cases hv : p v
      · have := read_of hz (hp v hv).1 (by have := (hp v hv).2; omega)
        rw [this, if_pos ⟨rfl, hv⟩, if_pos hv]
        rfl
      · rw [if_neg (fun hc => by
          have := num_of (hp _ hc.2).1 (hp _ hc.2).2
          rw [hz] at this
          injection this with this
          exact hv (by rw [this]; exact hc.2)), if_neg hv]
        rfl
  · rw [nums_any (fun L => if p (nth L 0) then some (f (nth L 0)) else none) hl, if_neg (fun h => hl (by simpa using h.1))]
    rfl
theorem two_say (w h : Int) (rest : List ByteArray) :
    (if (rest.map readB).length = 2 ∧ Brd (nth (rest.map readB) 0) (nth (rest.map readB) 1) then (tDone, nth (rest.map readB) 0, nth (rest.map readB) 1) else (tWrong, w, h)) = sayN w h (match numsTo rest rest.length with | none => some none | some L => if L.length = 2 then some (if Brd (nth L 0) (nth L 1) then some (tDone, nth L 0, nth L 1) else none) else some none) := by
  by_cases hl : rest.length = 2
  · obtain ⟨a, b, rfl⟩ : ∃ a b, rest = [a, b] := match rest, hl with | [a, b], _ => ⟨a, b, rfl⟩
    show (if 2 = 2 ∧ Brd (readB a) (readB b) then (tDone, readB a, readB b) else (tWrong, w, h)) = sayN w h (match numsTo [a, b] 2 with | none => some none | some L => if L.length = 2 then some (if Brd (nth L 0) (nth L 1) then some (tDone, nth L 0, nth L 1) else none) else some none)
    rw [nums_two]
    cases hz : numZ a with
    | none =>
      rw [if_neg (fun hc => by
        have := num_of (show 0 ≤ readB a by have := hc.2.1; omega) (by have := hc.2.2.1; omega)
        rw [hz] at this
        cases this)]
      rfl
    | some v =>
      cases hy : numZ b with
      | none =>
        rw [if_neg (fun hc => by
          have := num_of (show 0 ≤ readB b by have := hc.2.2.2.1; omega) (by have := hc.2.2.2.2; omega)
          rw [hy] at this
          cases this)]
        rfl
      | some u =>
        show _ = sayN w h (if 2 = 2 then some (if Brd v u then some (tDone, v, u) else none) else some none)
        rw [if_pos rfl]
        by_cases hv : Brd v u
        · obtain ⟨b1, b2, b3, b4⟩ := id hv
          rw [read_of hz (by omega) (by omega), read_of hy (by omega) (by omega), if_pos ⟨rfl, hv⟩, if_pos hv]
          rfl
        · rw [if_neg (fun hc => by
            obtain ⟨_, b1, b2, b3, b4⟩ := id hc
            have h1 := num_of (show 0 ≤ readB a by omega) (by omega)
            have h2 := num_of (show 0 ≤ readB b by omega) (by omega)
            rw [hz] at h1
            rw [hy] at h2
            injection h1 with h1
            injection h2 with h2
            exact hv (by rw [h1, h2]; exact hc.2)), if_neg hv]
          rfl
  · rw [nums_any (fun L => if Brd (nth L 0) (nth L 1) then some (tDone, nth L 0, nth L 1) else none) hl, if_neg (fun h => hl (by simpa using h.1))]
    rfl
theorem answer_say (D : DeskF) (hL : ∀ w h x, D.lit w h x = true → 0 ≤ x ∧ x ≤ 4095) (hP : ∀ w h x, D.peg w h x = true → 0 ≤ x ∧ x ≤ 4095) (w h : Int) (hB : Brd w h) (line : ByteArray) :
    answerB D w h line = sayN w h (askN D w h (splitB line 32)) := by
  have h25 := (mul_bd hB.1 hB.2.1 hB.2.2.1 hB.2.2.2).2
  show answerN D w h (headB (splitB line 32)) (((splitB line 32).drop 1).map readB) = sayN w h (askK D w h (headB (splitB line 32)) ((splitB line 32).drop 1))
  generalize headB (splitB line 32) = k
  generalize (splitB line 32).drop 1 = rest
  unfold answerN askK
  by_cases k1 : k.toList = kBoard
  · have hd : ∀ L, doN D w h k L = if Brd (nth L 0) (nth L 1) then some (tDone, nth L 0, nth L 1) else none := fun L => if_pos k1
    simp only [hd]
    rw [if_pos k1, if_pos (show knownB k.toList = true by rw [k1]; decide), show needN k.toList = 2 by rw [k1]; decide]
    exact two_say w h rest
  rw [if_neg k1]
  by_cases k2 : k.toList = kTile
  · have hd : ∀ L, doN D w h k L = some (numB (D.tiles w h), w, h) := fun L => by unfold doN; rw [if_neg k1, if_pos k2]
    simp only [hd]
    rw [if_neg (show ¬ pieceB k.toList = true by rw [k2]; decide), if_pos k2, if_pos (show knownB k.toList = true by rw [k2]; decide), show needN k.toList = 0 by rw [k2]; decide]
    have := zero_say w h rest True (numB (D.tiles w h), w, h)
    simpa using this
  by_cases k3 : k.toList = kDark
  · have hd : ∀ L, doN D w h k L = if D.lit w h (nth L 0) = true then some (numB (D.darks w h (nth L 0)), w, h) else none := fun L => by unfold doN; rw [if_neg k1, if_neg k2, if_pos k3]
    simp only [hd]
    rw [if_neg (show ¬ pieceB k.toList = true by rw [k3]; decide), if_neg k2, if_pos k3, if_pos (show knownB k.toList = true by rw [k3]; decide), show needN k.toList = 1 by rw [k3]; decide]
    exact one_say w h rest (fun x => D.lit w h x = true) (hL w h) (fun x => (numB (D.darks w h x), w, h))
  by_cases k4 : k.toList = kPegs
  · have hd : ∀ L, doN D w h k L = if D.peg w h (nth L 0) = true then some (numB (D.pegs w h (nth L 0)), w, h) else none := fun L => by unfold doN; rw [if_neg k1, if_neg k2, if_neg k3, if_pos k4]
    simp only [hd]
    rw [if_neg (show ¬ pieceB k.toList = true by rw [k4]; decide), if_neg k2, if_neg k3, if_pos k4, if_pos (show knownB k.toList = true by rw [k4]; decide), show needN k.toList = 1 by rw [k4]; decide]
    exact one_say w h rest (fun x => D.peg w h x = true) (hP w h) (fun x => (numB (D.pegs w h x), w, h))
  by_cases k5 : k.toList = kFold
  · have hd : ∀ L, doN D w h k L = if w * h ≤ 9 then some (listB (D.folds w h) (D.folds w h).length, w, h) else none := fun L => by unfold doN; rw [if_neg k1, if_neg k2, if_neg k3, if_neg k4, if_pos k5]
    simp only [hd]
    rw [if_neg (show ¬ pieceB k.toList = true by rw [k5]; decide), if_neg k2, if_neg k3, if_neg k4, if_pos k5, if_pos (show knownB k.toList = true by rw [k5]; decide), show needN k.toList = 0 by rw [k5]; decide]
    exact zero_say w h rest (w * h ≤ 9) (listB (D.folds w h) (D.folds w h).length, w, h)
  rw [if_neg k2, if_neg k3, if_neg k4, if_neg k5]
  by_cases k6 : pieceB k.toList = true
  · have hd : ∀ L, doN D w h k L = if 0 ≤ nth L 0 ∧ nth L 0 ≤ w * h - 1 then some (listB (D.cells w h k (nth L 0)) (D.cells w h k (nth L 0)).length, w, h) else none := fun L => by unfold doN; rw [if_neg k1, if_neg k2, if_neg k3, if_neg k4, if_neg k5]
    simp only [hd]
    rw [if_pos k6, if_pos (show knownB k.toList = true by unfold knownB; rw [k6, Bool.or_true]), show needN k.toList = 1 by unfold needN; rw [if_neg (fun hc => hc.elim k2 k5), if_neg k1]]
    exact one_say w h rest (fun x => 0 ≤ x ∧ x ≤ w * h - 1) (fun x hx => ⟨hx.1, by omega⟩) (fun x => (listB (D.cells w h k x) (D.cells w h k x).length, w, h))
  · rw [if_neg k6, if_neg (show ¬ knownB k.toList = true by
      unfold knownB
      simp only [Bool.or_eq_true, beq_iff_eq]
      exact fun hc => hc.elim (fun hc => hc.elim (fun hc => hc.elim (fun hc => hc.elim (fun hc => hc.elim k1 k2) k3) k4) k5) k6)]
    rfl
end Go.Proofs.YtmfdlijkpdgimaaGreatDoor
