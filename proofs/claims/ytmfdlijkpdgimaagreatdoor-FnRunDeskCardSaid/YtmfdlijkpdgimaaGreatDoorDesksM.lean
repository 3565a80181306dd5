/-
  DeskA, DeskB, DeskC, DeskD, DeskP in one text.
-/
import Derived.Test.YtmfdlijkpdgimaaGreatDoorSpecM
import Derived.Laws.DeepStrings4
import Derived.Laws.Concat
import Derived.BigQuiet
/-
  The desk, the model's words: number, listText.
-/
namespace Go.Proofs.YtmfdlijkpdgimaaGreatDoor
open Go.RowKit
set_option linter.unusedVariables false

/-- A digit. -/
def digB (d : Nat) : ByteArray := ByteArray.extract ⟨#[48, 49, 50, 51, 52, 53, 54, 55, 56, 57]⟩ d (d + 1)
theorem dig_size (d : Nat) : (digB d).size ≤ 1 := by
  unfold digB
  rw [ByteArray.size_extract]
  omega
/-- A number in decimal, of at most f + 1 digits. -/
def decF : Nat → Nat → ByteArray
  | 0, n => digB n
  | f + 1, n => if n < 10 then digB n else decF f (n / 10) ++ digB (n % 10)
theorem dec_size : ∀ f n, (decF f n).size ≤ f + 1
  | 0, n => dig_size n
  | f + 1, n => by
    unfold decF
    split
    · have := dig_size n; omega
    · have h1 := dec_size f (n / 10)
      have h2 := dig_size (n % 10)
      rw [ByteArray.size_append]
      omega
def numB (z : Int) : ByteArray := if z < 0 then ⟨#[45]⟩ ++ decF 17 (-z).toNat else decF 17 z.toNat
theorem num_size (z : Int) : (numB z).size ≤ 19 := by
  unfold numB
  split
  · have := dec_size 17 (-z).toNat
    rw [ByteArray.size_append]
    have h1 : (ByteArray.mk #[45]).size = 1 := rfl
    omega
  · have := dec_size 17 z.toNat
    omega
theorem wrap_in (z : Int) (h1 : -1000000000000000000 < z) (h2 : z < 1000000000000000000) : IntKind.i64.wrap z = z := IntWalk.i64_in _ (by omega)
set_option maxHeartbeats 1000000 in
theorem decimal_c : ∀ (f n : Nat) (w : World), f ≤ 17 → n < 10 ^ (f + 1) → Calls Tryz.prog 15 #[.int .i64 (n : Int)] w (Plain (.string (decF f n)) w)
  | 0, n, w, hf, hn => by
    have h10 : (n : Int) < 10 := by omega
    have e1 : IntKind.i64.wrap ((n : Int) + 1) = (n : Int) + 1 := wrap_in _ (by omega) (by omega)
    show Calls Tryz.prog 15 #[.int .i64 (n : Int)] w (Plain (.string (digB n)) w)
    go_enter Tryz.func15, Tryz.ntmps15
    go_wp2_with fail
    go_ret
    exact ⟨rfl, Below.refl _ _⟩
  | f + 1, n, w, hf, hn => by
    have hp : 10 ^ (f + 1 + 1) = 10 * 10 ^ (f + 1) := by rw [Nat.pow_succ, Nat.mul_comm]
    have hmx : 10 ^ (f + 1 + 1) ≤ 10 ^ 18 := Nat.pow_le_pow_right (by omega) (by omega)
    have hn18 : n < 1000000000000000000 := Nat.lt_of_lt_of_le hn (Nat.le_trans hmx (by decide))
    unfold decF
    by_cases h : n < 10
    · have h10 : (n : Int) < 10 := by omega
      have e1 : IntKind.i64.wrap ((n : Int) + 1) = (n : Int) + 1 := wrap_in _ (by omega) (by omega)
      rw [if_pos h]
      clear hp hmx hn hn18
      go_enter Tryz.func15, Tryz.ntmps15
      go_wp2_with fail
      go_ret
      exact ⟨rfl, Below.refl _ _⟩
    · rw [if_neg h]
      have h10 : ¬ (n : Int) < 10 := by omega
      have H1 := hide (fun w5 => decimal_c f (n / 10) w5 (by omega) (by omega))
      have H2 := hide (fun w5 => show Calls Tryz.prog 15 #[.int .i64 ((n % 10 : Nat) : Int)] w5 (Plain (.string (digB (n % 10))) w5) from by
        have := decimal_c f (n % 10) w5 (by omega) (Nat.lt_of_lt_of_le (Nat.mod_lt _ (by omega)) (Nat.le_trans (by decide : 10 ≤ 10 ^ 1) (Nat.pow_le_pow_right (by omega) (by omega))))
        cases f with
        | zero => exact this
        | succ f => rwa [show decF (f + 1) (n % 10) = digB (n % 10) from if_pos (Nat.mod_lt _ (by omega))] at this)
      have t1 : Int.tdiv (n : Int) 10 = ((n / 10 : Nat) : Int) := rfl
      have t2 : Int.tmod (n : Int) 10 = ((n % 10 : Nat) : Int) := rfl
      have q1 : IntKind.i64.wrap ((n / 10 : Nat) : Int) = ((n / 10 : Nat) : Int) := wrap_in _ (by omega) (by omega)
      have q2 : IntKind.i64.wrap ((n % 10 : Nat) : Int) = ((n % 10 : Nat) : Int) := wrap_in _ (by omega) (by omega)
      have s1 := dec_size f (n / 10)
      have s2 := dig_size (n % 10)
      have n0 : ¬ ((n : Int) < 0) := by omega
      generalize n / 10 = p at *
      generalize n % 10 = q at *
      generalize decF f p = x at *
      generalize digB q = y at *
      have hs : x.size + y.size ≤ 9223372036854775807 := by omega
      clear hp hmx hn hn18 s1 s2 h
      go_enter Tryz.func15, Tryz.ntmps15
      go_wp2_with fail
      refine (H1.out _).mono ?_
      rintro e w1 ⟨rfl, b1⟩
      go_wp2_with fail
      refine (H2.out _).mono ?_
      rintro e w2 ⟨rfl, b2⟩
      go_wp2_with fail
      go_ret
      exact ⟨rfl, below_then b1 b1.size b2⟩
set_option maxHeartbeats 1000000 in
theorem number_c (z : Int) (w : World) (h1 : -1000000000000000000 < z) (h2 : z < 1000000000000000000) : Calls Tryz.prog 15 #[.int .i64 z] w (Plain (.string (numB z)) w) := by
  unfold numB
  by_cases hz : z < 0
  · rw [if_pos hz]
    obtain ⟨n, hn⟩ : ∃ n : Nat, -z = (n : Int) := ⟨(-z).toNat, by omega⟩
    have H1 := hide (fun w5 => decimal_c 17 n w5 (Nat.le_refl _) (Nat.lt_of_lt_of_le (by omega : n < 1000000000000000000) (by decide)))
    have s1 := dec_size 17 n
    have e1 : IntKind.i64.wrap (-z) = (n : Int) := by rw [hn]; exact wrap_in _ (by omega) (by omega)
    rw [hn, Int.toNat_natCast]
    generalize decF 17 n = x at *
    have hs : (ByteArray.mk #[45]).size + x.size ≤ 9223372036854775807 := by
      have h1 : (ByteArray.mk #[45]).size = 1 := rfl
      omega
    clear s1
    go_enter Tryz.func15, Tryz.ntmps15
    go_wp2_with fail
    refine (H1.out _).mono ?_
    rintro e w1 ⟨rfl, b1⟩
    go_wp2_with fail
    go_ret
    exact ⟨rfl, b1⟩
  · rw [if_neg hz]
    obtain ⟨n, rfl⟩ := Int.eq_ofNat_of_zero_le (show 0 ≤ z by omega)
    rw [Int.toNat_natCast]
    exact decimal_c 17 n w (Nat.le_refl _) (Nat.lt_of_lt_of_le (by omega : n < 1000000000000000000) (by decide))
end Go.Proofs.YtmfdlijkpdgimaaGreatDoor

/-
  The desk, the model's words: listText, splitAt, readNumber.
-/
namespace Go.Proofs.YtmfdlijkpdgimaaGreatDoor
open Go.RowKit
set_option linter.unusedVariables false

/-- The first k numbers of a row in decimal, with a comma between two. -/
def listB (xs : List Int) : Nat → ByteArray
  | 0 => ⟨#[]⟩
  | k + 1 => (if 0 < k then listB xs k ++ ⟨#[44]⟩ else listB xs k) ++ numB (xs[k]?.getD 0)
theorem list_size (xs : List Int) : ∀ k, (listB xs k).size ≤ 20 * k
  | 0 => Nat.le_refl _
  | k + 1 => by
    have ih := list_size xs k
    have h1 := num_size (xs[k]?.getD 0)
    have h2 : (ByteArray.mk #[44]).size = 1 := rfl
    unfold listB
    rw [ByteArray.size_append]
    split
    · rw [ByteArray.size_append]; omega
    · omega
set_option maxHeartbeats 1000000 in
theorem listText_c (A : Option Addr) (xs : List Int) (n c : Nat) (w : World) (hn : xs.length = n) (hr : Row w A (ints xs)) (hm : n ≤ 1000) (hx : ∀ i, i < n → -1000000000000000000 < xs[i]?.getD 0 ∧ xs[i]?.getD 0 < 1000000000000000000) :
    Calls Tryz.prog 29 #[.slice A n c] w (Plain (.string (listB xs n)) w) := by
  have HR := hide hr
  have HN := hide (fun (k : Nat) (hk : k < n) w5 => number_c (xs[k]?.getD 0) w5 (hx k hk).1 (hx k hk).2)
  have HS := hide (fun (k : Nat) => show listB xs (k + 1) = (if 0 < k then listB xs k ++ ⟨#[44]⟩ else listB xs k) ++ numB (xs[k]?.getD 0) from rfl)
  have HZ := hide (fun (k : Nat) => list_size xs k)
  have H0 : Hid (listB xs 0 = ⟨#[]⟩) := rfl
  have HQ := hide (fun (k : Nat) => num_size (xs[k]?.getD 0))
  have HL := hide hn
  clear hr hx hn
  go_enter Tryz.func29, Tryz.ntmps29
  go_wp2_with fail
  go_loopw [3, 4] (fun ov iv wr => ∃ k : Nat, k ≤ n ∧ iv = .int .i64 (k : Int) ∧ ov = .string (listB xs k) ∧ Below w.heap.size w wr) (fun _ iv _ => n - (intOf iv).toNat)
  case atStart => exact ⟨0, Nat.zero_le _, rfl, by rw [H0.out], Below.refl _ _⟩
  case round =>
    obtain ⟨k, hk, rfl, rfl, hb⟩ := hrel
    obtain ⟨wo, rfl⟩ : ∃ wo : World, wo = wr := ⟨_, rfl⟩
    by_cases hlt : k < n
    · obtain ⟨ad, rfl, hca⟩ := (HR.out.below hb).int (k := k) (by rw [HL.out]; exact hlt)
      have HNk := hide (fun w5 => HN.out k hlt w5)
      have HSk := hide (HS.out k)
      have hz := HZ.out k
      have hq := HQ.out k
      clear HN HS HZ HQ
      generalize xs[k]?.getD 0 = x at *
      generalize listB xs k = o at *
      generalize numB x = y at *
      have h44 : (ByteArray.mk #[44]).size = 1 := rfl
      have hs1 : o.size + (ByteArray.mk #[44]).size ≤ 9223372036854775807 := by omega
      have hs2 : (o ++ ByteArray.mk #[44]).size + y.size ≤ 9223372036854775807 := by rw [ByteArray.size_append]; omega
      have hs3 : o.size + y.size ≤ 9223372036854775807 := by omega
      have k0 : (0 : Int) ≤ (k : Int) := by omega
      have k1 : (k : Int) < (n : Int) := by omega
      clear hz hq h44
      by_cases hk0 : 0 < k
      · rw [if_pos hk0] at HSk
        have k2 : (0 : Int) < (k : Int) := by omega
        go_wp2_with fail
        refine (HNk.out _).mono ?_
        rintro e w1 ⟨rfl, b1⟩
        go_wp2_with fail
        exact ⟨⟨k + 1, hlt, by go_num, by rw [HSk.out], below_then hb hb.size b1⟩, by simp [intOf]; omega⟩
      · rw [if_neg hk0] at HSk
        have k2 : ¬ (0 : Int) < (k : Int) := by omega
        go_wp2_with fail
        refine (HNk.out _).mono ?_
        rintro e w1 ⟨rfl, b1⟩
        go_wp2_with fail
        exact ⟨⟨k + 1, hlt, by go_num, by rw [HSk.out], below_then hb hb.size b1⟩, by simp [intOf]; omega⟩
    · obtain rfl : k = n := by omega
      go_wp2_with fail
      go_ret
      exact ⟨rfl, hb⟩
end Go.Proofs.YtmfdlijkpdgimaaGreatDoor

/-
  The desk, the model's words: splitAt, readNumber.
-/
namespace Go.Proofs.YtmfdlijkpdgimaaGreatDoor
open Go.RowKit
set_option linter.unusedVariables false

def strsV (l : List ByteArray) : List Value := l.map Value.string
theorem elem_str : Elem Tryz.prog 9 1 16 := Elem.of (z := .string ⟨#[]⟩) (by kernel_rfl) rfl (by omega)
theorem one_strs (l : List ByteArray) : ∀ u ∈ strsV l, u.oneCell' = true := by
  intro u hu
  obtain ⟨x, _, rfl⟩ := List.mem_map.1 hu
  rfl
/-- A text's byte. -/
def atB (s : ByteArray) (i : Nat) : Nat := if h : i < s.size then (s[i]'h).toNat else 0
theorem at_is {s : ByteArray} {i : Nat} (h : i < s.size) : (s[i]'h).toNat = atB s i := by unfold atB; rw [dif_pos h]
theorem at_lt (s : ByteArray) (i : Nat) : atB s i < 256 := by
  unfold atB
  split
  · exact UInt8.toNat_lt _
  · omega
/-- The pieces of the first i bytes that are whole, and where the next one begins. -/
def cutTo (s : ByteArray) (c : Nat) : Nat → List ByteArray × Nat
  | 0 => ([], 0)
  | i + 1 => if atB s i = c then ((cutTo s c i).1 ++ [s.extract (cutTo s c i).2 i], i + 1) else cutTo s c i
def splitB (s : ByteArray) (c : Nat) : List ByteArray := (cutTo s c s.size).1 ++ [s.extract (cutTo s c s.size).2 s.size]
theorem cut_le (s : ByteArray) (c : Nat) : ∀ i, (cutTo s c i).2 ≤ i ∧ (cutTo s c i).1.length ≤ i
  | 0 => ⟨Nat.le_refl _, Nat.le_refl _⟩
  | i + 1 => by
    have ih := cut_le s c i
    unfold cutTo
    split
    · simp; omega
    · omega
set_option maxHeartbeats 2000000 in
theorem splitAt_c (s : ByteArray) (c : Nat) (w : World) (hs : s.size ≤ 1073741824) :
    Calls Tryz.prog 25 #[.string s, .int .u8 (c : Int)] w (Owns 9 1 (splitB s c).length (strsV (splitB s c)) w) := by
  have HS := hide (fun (i : Nat) => show cutTo s c (i + 1) = if atB s i = c then ((cutTo s c i).1 ++ [s.extract (cutTo s c i).2 i], i + 1) else cutTo s c i from rfl)
  have HL := hide (fun (i : Nat) => cut_le s c i)
  have HD : Hid (splitB s c = (cutTo s c s.size).1 ++ [s.extract (cutTo s c s.size).2 s.size]) := rfl
  have H0 : Hid (cutTo s c 0 = ([], 0)) := rfl
  go_enter Tryz.func25, Tryz.ntmps25
  have oe := World.ownsRow_made (base := w.heap.size) (e := 9) (size := 1) w #[] 0 (Nat.le_refl _) (by simp [maxLen]) rfl
  have hal := (Below.refl w.heap.size w).alloc (Nat.le_refl _) (.cells #[] 9)
  have OE := hide oe
  have BA := hide hal
  clear oe hal
  go_wp2_with fail
  go_loopw [5, 6, 7] (fun ov fv iv wr => ∃ i : Nat, i ≤ s.size ∧ iv = .int .i64 (i : Int) ∧ fv = .int .i64 (((cutTo s c i).2 : Nat) : Int) ∧ wr.ownsRow w.heap.size 9 1 ov (cutTo s c i).1.length (strsV (cutTo s c i).1) ∧ Below w.heap.size w wr) (fun _ _ iv _ => s.size - (intOf iv).toNat)
  case atStart => exact ⟨0, Nat.zero_le _, rfl, by rw [H0.out]; rfl, by rw [H0.out]; exact OE.out, BA.out⟩
  case round =>
    obtain ⟨i, hi, rfl, rfl, hown, hb⟩ := hrel
    obtain ⟨wo, rfl⟩ : ∃ wo : World, wo = wr := ⟨_, rfl⟩
    obtain ⟨lf, ll⟩ := HL.out i
    have HSi := hide (HS.out i)
    obtain ⟨A1, c1, rfl, hc1, hc2, _⟩ := own_row hown
    by_cases hlt : i < s.size
    · have i0 : (0 : Int) ≤ (i : Int) := by omega
      have i1 : (i : Int) < (s.size : Int) := by omega
      have hat := at_is hlt
      have hl8 := at_lt s i
      have OW := hide hown
      have HB := hide hb
      clear OE BA HS HL HD H0 hown hb
      generalize atB s i = x at *
      have i2 : (i : Int) ≤ (s.size : Int) := by omega
      by_cases hx : x = c
      · rw [if_pos hx] at HSi
        have hxb : ((x : Int) == (c : Int)) = true := by rw [beq_iff_eq]; omega
        generalize cutTo s c i = P at *
        obtain ⟨L, f⟩ := P
        simp only at lf ll OW HSi hc1 ⊢
        have f0 : (0 : Int) ≤ (f : Int) := by omega
        have f1 : (f : Int) ≤ (i : Int) := by omega
        have oe := OW.out.alloc (.cells #[.string (s.extract f i)] 9)
        have be := HB.out.alloc HB.out.size (.cells #[.string (s.extract f i)] 9)
        go_wp2_with (first
          | (at_builtin; refine put_own rfl (.tmp 20) (.tmp 25) rfl Tryz.underlying23 elem_str rfl oe rfl (m := 1) (news := [.string (s.extract f i)]) rfl (row_new _ _ _ rfl) (by simp [Value.oneCell']) (by omega) (by omega) be.size ?_
             intro v3 w3 own3 hg3 ho3
             have b3 := below_grown be be.size oe (Nat.le_refl _) hg3
             obtain ⟨A3, c3, rfl, _, _, _, _⟩ := own_row own3))
        exact ⟨⟨i + 1, hlt, by go_num, by rw [HSi.out]; go_num, by rw [HSi.out]; simpa [strsV] using own3, b3⟩, by simp [intOf]; omega⟩
      · rw [if_neg hx] at HSi
        have hxb : ((x : Int) == (c : Int)) = false := by rw [beq_eq_false_iff_ne]; omega
        go_wp2_with fail
        exact ⟨⟨i + 1, hlt, by go_num, by rw [HSi.out], by rw [HSi.out]; exact OW.out, HB.out⟩, by simp [intOf]; omega⟩
    · obtain rfl : i = s.size := by omega
      have OW := hide hown
      have HB := hide hb
      clear OE BA HS HL H0 hown hb HSi
      generalize cutTo s c s.size = P at *
      obtain ⟨L, f⟩ := P
      simp only at lf ll OW hc1 HD ⊢
      have f0 : (0 : Int) ≤ (f : Int) := by omega
      have f1 : (f : Int) ≤ (s.size : Int) := by omega
      have oe := OW.out.alloc (.cells #[.string (s.extract f s.size)] 9)
      have be := HB.out.alloc HB.out.size (.cells #[.string (s.extract f s.size)] 9)
      go_wp2_with (first
        | (at_builtin; refine put_own rfl (.tmp 29) (.tmp 33) rfl Tryz.underlying23 elem_str rfl oe rfl (m := 1) (news := [.string (s.extract f s.size)]) rfl (row_new _ _ _ rfl) (by simp [Value.oneCell']) (by omega) (by omega) be.size ?_
           intro v3 w3 own3 hg3 ho3
           have b3 := below_grown be be.size oe (Nat.le_refl _) hg3
           obtain ⟨A3, c3, rfl, _, _, _, _⟩ := own_row own3))
      go_ret
      exact ⟨_, rfl, by rw [HD.out]; simpa [strsV] using own3, b3⟩
end Go.Proofs.YtmfdlijkpdgimaaGreatDoor

/-
  The desk, the model's words: readNumber.
-/
namespace Go.Proofs.YtmfdlijkpdgimaaGreatDoor
open Go.RowKit
set_option linter.unusedVariables false

/-- The number that the first i bytes tell, if they are digits. -/
def readTo (s : ByteArray) : Nat → Option Nat
  | 0 => some 0
  | i + 1 => match readTo s i with
    | none => none
    | some n => if (atB s i < 48 ∨ 57 < atB s i) ∨ 1000 < n then none else some (10 * n + (atB s i - 48))
def readB (s : ByteArray) : Int := match readTo s s.size with
  | none => -1
  | some n => if s.toList = [] ∨ (numB n).toList ≠ s.toList then -1 else n
theorem read_none {s : ByteArray} {i : Nat} (h : readTo s i = none) : ∀ j, i ≤ j → readTo s j = none
  | 0, hj => by rwa [show i = 0 by omega] at h
  | j + 1, hj => by
    by_cases e : i = j + 1
    · rwa [e] at h
    · unfold readTo
      rw [read_none h j (by omega)]
theorem read_bd {s : ByteArray} : ∀ {i n}, readTo s i = some n → n ≤ 10009
  | 0, n, h => by injection h with h; omega
  | i + 1, n, h => by
    unfold readTo at h
    cases hr : readTo s i with
    | none => rw [hr] at h; cases h
    | some m =>
      rw [hr] at h
      simp only at h
      split at h
      · cases h
      · injection h with h
        omega
theorem read_range (s : ByteArray) : -1 ≤ readB s ∧ readB s ≤ 10009 := by
  unfold readB
  cases hr : readTo s s.size with
  | none => simp
  | some n =>
    have := read_bd hr
    simp only
    split <;> omega
set_option maxHeartbeats 2000000 in
theorem readNumber_c (s : ByteArray) (w : World) (hs : s.size ≤ 1073741824) : Calls Tryz.prog 26 #[.string s] w (Plain (.int .i64 (readB s)) w) := by
  have HS := hide (fun (i n : Nat) (h : readTo s i = some n) => show readTo s (i + 1) = if (atB s i < 48 ∨ 57 < atB s i) ∨ 1000 < n then none else some (10 * n + (atB s i - 48)) by
    show (match readTo s i with | none => none | some n => _) = _
    rw [h])
  have HB := hide (fun (i n : Nat) (h : readTo s i = some n) => read_bd h)
  have HZ := hide (fun (i : Nat) (hi : i < s.size) (h : readTo s (i + 1) = none) => show readB s = -1 by
    unfold readB
    rw [read_none h s.size (by omega)])
  have HN := hide (fun (n : Nat) (hn : n ≤ 10009) w5 => number_c (n : Int) w5 (by omega) (by omega))
  have HE := hide (fun (n : Nat) (h : readTo s s.size = some n) => show readB s = if s.toList = [] ∨ (numB n).toList ≠ s.toList then -1 else (n : Int) by
    unfold readB
    rw [h])
  have H0 : Hid (readTo s 0 = some 0) := rfl
  go_enter Tryz.func26, Tryz.ntmps26
  go_wp2_with fail
  go_loopw [3, 4] (fun nv iv wr => ∃ i n : Nat, i ≤ s.size ∧ iv = .int .i64 (i : Int) ∧ nv = .int .i64 (n : Int) ∧ Hid (readTo s i = some n) ∧ Below w.heap.size w wr) (fun _ iv _ => s.size - (intOf iv).toNat)
  case atStart => exact ⟨0, 0, Nat.zero_le _, rfl, rfl, H0, Below.refl _ _⟩
  case round =>
    obtain ⟨i, n, hi, rfl, rfl, hrd, hb⟩ := hrel
    obtain ⟨wo, rfl⟩ : ∃ wo : World, wo = wr := ⟨_, rfl⟩
    have hn := HB.out i n hrd.out
    by_cases hlt : i < s.size
    · have HSi := hide (HS.out i n hrd.out)
      have HZi := hide (HZ.out i hlt)
      have i0 : (0 : Int) ≤ (i : Int) := by omega
      have i1 : (i : Int) < (s.size : Int) := by omega
      have hat := at_is hlt
      have hl8 := at_lt s i
      clear HS HB HZ HN HE H0
      generalize atB s i = x at *
      by_cases c1 : x < 48
      · rw [if_pos (.inl (.inl c1))] at HSi
        have hz := HZi.out HSi.out
        have d1 : (x : Int) < 48 := by omega
        rw [hz]
        go_wp2_with fail
        go_ret
        exact ⟨rfl, hb⟩
      · have d1 : ¬ (x : Int) < 48 := by omega
        by_cases c2 : 57 < x
        · rw [if_pos (.inl (.inr c2))] at HSi
          have hz := HZi.out HSi.out
          have d2 : (57 : Int) < (x : Int) := by omega
          rw [hz]
          go_wp2_with fail
          go_ret
          exact ⟨rfl, hb⟩
        · have d2 : ¬ (57 : Int) < (x : Int) := by omega
          by_cases c3 : 1000 < n
          · rw [if_pos (.inr c3)] at HSi
            have hz := HZi.out HSi.out
            have d3 : (1000 : Int) < (n : Int) := by omega
            rw [hz]
            go_wp2_with fail
            go_ret
            exact ⟨rfl, hb⟩
          · rw [if_neg (by omega)] at HSi
            have d3 : ¬ (1000 : Int) < (n : Int) := by omega
            obtain ⟨y, hy⟩ : ∃ y, x - 48 = y := ⟨_, rfl⟩
            have e1 : IntKind.u8.wrap ((x : Int) - 48) = (y : Int) := by
              rw [show (x : Int) - 48 = (y : Int) by omega]
              exact IntWalk.u8_in _ (by omega)
            have e2 : IntKind.i64.wrap (y : Int) = (y : Int) := wrap_in _ (by omega) (by omega)
            have e3 : IntKind.i64.wrap (10 * (n : Int)) = 10 * (n : Int) := wrap_in _ (by omega) (by omega)
            have e4 : IntKind.i64.wrap (10 * (n : Int) + (y : Int)) = ((10 * n + y : Nat) : Int) := (wrap_in _ (by omega) (by omega)).trans (by omega)
            rw [hy] at HSi
            go_wp2_with fail
            exact ⟨⟨i + 1, 10 * n + y, hlt, by go_num, by go_num, hide HSi.out, hb⟩, by simp [intOf]; omega⟩
    · obtain rfl : i = s.size := by omega
      have hE := HE.out n hrd.out
      have HNn := hide (fun w5 => HN.out n hn w5)
      clear HS HB HZ HN HE H0
      by_cases c1 : s.toList = []
      · rw [if_pos (.inl c1)] at hE
        go_wp2_with fail
        go_ret
        exact ⟨by rw [hE]; rfl, hb⟩
      · have d1 : (s.toList == []) = false := by simpa using c1
        by_cases c2 : (numB n).toList = s.toList
        · rw [if_neg (by simp [c1, c2])] at hE
          have d2 : ((numB n).toList == s.toList) = true := by simp [c2]
          generalize numB n = y at *
          go_wp2_with fail
          refine (HNn.out _).mono ?_
          rintro e w1 ⟨rfl, b1⟩
          go_wp2_with fail
          go_ret
          exact ⟨by rw [hE]; rfl, below_then hb hb.size b1⟩
        · rw [if_pos (.inr c2)] at hE
          have d2 : ((numB n).toList == s.toList) = false := by simp [c2]
          generalize numB n = y at *
          go_wp2_with fail
          refine (HNn.out _).mono ?_
          rintro e w1 ⟨rfl, b1⟩
          go_wp2_with fail
          go_ret
          exact ⟨by rw [hE]; rfl, below_then hb hb.size b1⟩
end Go.Proofs.YtmfdlijkpdgimaaGreatDoor

/-
  The desk, purely: what a line is answered, by the functions that it asks.
-/
namespace Go.Proofs.YtmfdlijkpdgimaaGreatDoor
open Go.RowKit
set_option linter.unusedVariables false

/-- What a desk asks of a board: the cells of a piece, the covers, the lights, the pegs, the folding. -/
structure DeskF where
  cells : Int → Int → ByteArray → Int → List Int
  tiles : Int → Int → Int
  lit : Int → Int → Int → Bool
  darks : Int → Int → Int → Int
  peg : Int → Int → Int → Bool
  pegs : Int → Int → Int → Int
  folds : Int → Int → List Int
def nth (N : List Int) (i : Nat) : Int := N[i]?.getD 0
def small18 (z : Int) : Prop := -1000000000000000000 < z ∧ z < 1000000000000000000
/-- What it asks is of few and small numbers. -/
structure DeskS (D : DeskF) : Prop where
  cells : ∀ w h k x, (D.cells w h k x).length ≤ 100 ∧ ∀ i, i < (D.cells w h k x).length → small18 ((D.cells w h k x)[i]?.getD 0)
  tiles : ∀ w h, small18 (D.tiles w h)
  darks : ∀ w h x, small18 (D.darks w h x)
  pegs : ∀ w h x, small18 (D.pegs w h x)
  folds : ∀ w h, (D.folds w h).length ≤ 100 ∧ ∀ i, i < (D.folds w h).length → small18 ((D.folds w h)[i]?.getD 0)
def kBoard : List UInt8 := [98, 111, 97, 114, 100]
def kTile : List UInt8 := [116, 105, 108, 101]
def kDark : List UInt8 := [100, 97, 114, 107]
def kPegs : List UInt8 := [112, 101, 103, 115]
def kFold : List UInt8 := [102, 111, 108, 100]
def pieceB (l : List UInt8) : Bool := l == [107, 105, 110, 103] || l == [107, 110, 105, 103, 104, 116] || l == [114, 111, 111, 107] || l == [98, 105, 115, 104, 111, 112] || l == [113, 117, 101, 101, 110] || l == [115, 116, 101, 112]
def tDone : ByteArray := ⟨#[100, 111, 110, 101]⟩
def tWhat : ByteArray := ⟨#[119, 104, 97, 116]⟩
def tWrong : ByteArray := ⟨#[119, 114, 111, 110, 103]⟩
/-- The answer to a command with numbers, and the board behind it. -/
def answerN (D : DeskF) (w h : Int) (k : ByteArray) (N : List Int) : ByteArray × Int × Int :=
  if k.toList = kBoard then (if N.length = 2 ∧ Brd (nth N 0) (nth N 1) then (tDone, nth N 0, nth N 1) else (tWrong, w, h))
  else if pieceB k.toList then (if N.length = 1 ∧ (0 ≤ nth N 0 ∧ nth N 0 ≤ w * h - 1) then (listB (D.cells w h k (nth N 0)) (D.cells w h k (nth N 0)).length, w, h) else (tWrong, w, h))
  else if k.toList = kTile then (if N.length = 0 then (numB (D.tiles w h), w, h) else (tWrong, w, h))
  else if k.toList = kDark then (if N.length = 1 ∧ D.lit w h (nth N 0) = true then (numB (D.darks w h (nth N 0)), w, h) else (tWrong, w, h))
  else if k.toList = kPegs then (if N.length = 1 ∧ D.peg w h (nth N 0) = true then (numB (D.pegs w h (nth N 0)), w, h) else (tWrong, w, h))
  else if k.toList = kFold then (if N.length = 0 ∧ w * h ≤ 9 then (listB (D.folds w h) (D.folds w h).length, w, h) else (tWrong, w, h))
  else (tWhat, w, h)
def answerB (D : DeskF) (w h : Int) (line : ByteArray) : ByteArray × Int × Int :=
  answerN D w h ((splitB line 32)[0]?.getD ⟨#[]⟩) (((splitB line 32).drop 1).map readB)
/-- The board behind the first i lines, and the answers to them. -/
def deskTo (D : DeskF) (lines : List ByteArray) : Nat → ByteArray × Int × Int
  | 0 => (⟨#[]⟩, 3, 3)
  | i + 1 => ((deskTo D lines i).1 ++ (answerB D (deskTo D lines i).2.1 (deskTo D lines i).2.2 (lines[i]?.getD ⟨#[]⟩)).1 ++ ⟨#[10]⟩, (answerB D (deskTo D lines i).2.1 (deskTo D lines i).2.2 (lines[i]?.getD ⟨#[]⟩)).2)
def deskB (D : DeskF) (lines : List ByteArray) : ByteArray := if 20 < lines.length then ⟨#[]⟩ else (deskTo D lines lines.length).1
theorem answer_brd {D : DeskF} {w h : Int} {k : ByteArray} {N : List Int} (hB : Brd w h) : Brd (answerN D w h k N).2.1 (answerN D w h k N).2.2 := by
  unfold answerN
  repeat' split
  all_goals first | exact hB | (rename_i hq; exact hq.2)
theorem answer_size {D : DeskF} (hS : DeskS D) (w h : Int) (k : ByteArray) (N : List Int) : (answerN D w h k N).1.size ≤ 2000 := by
  have t1 : tDone.size = 4 := rfl
  have t2 : tWhat.size = 4 := rfl
  have t3 : tWrong.size = 5 := rfl
  have c := fun x => (hS.cells w h k x).1
  have f := (hS.folds w h).1
  have lc := fun x => list_size (D.cells w h k x) (D.cells w h k x).length
  have lf := list_size (D.folds w h) (D.folds w h).length
  unfold answerN
  repeat' split
  all_goals simp only
  all_goals first | omega | (have := c (nth N 0); have := lc (nth N 0); omega) | (have := num_size (D.tiles w h); omega) | (have := num_size (D.darks w h (nth N 0)); omega) | (have := num_size (D.pegs w h (nth N 0)); omega)
theorem desk_brd (D : DeskF) (lines : List ByteArray) : ∀ i, Brd (deskTo D lines i).2.1 (deskTo D lines i).2.2
  | 0 => show Brd 3 3 from ⟨by decide, by decide, by decide, by decide⟩
  | i + 1 => answer_brd (desk_brd D lines i)
theorem desk_size {D : DeskF} (hS : DeskS D) (lines : List ByteArray) : ∀ i, (deskTo D lines i).1.size ≤ 2001 * i
  | 0 => Nat.le_refl _
  | i + 1 => by
    have ih := desk_size hS lines i
    have h1 := answer_size hS (deskTo D lines i).2.1 (deskTo D lines i).2.2 ((splitB (lines[i]?.getD ⟨#[]⟩) 32)[0]?.getD ⟨#[]⟩) (((splitB (lines[i]?.getD ⟨#[]⟩) 32).drop 1).map readB)
    have h2 : (ByteArray.mk #[10]).size = 1 := rfl
    unfold deskTo
    rw [ByteArray.size_append, ByteArray.size_append]
    unfold answerB
    omega
end Go.Proofs.YtmfdlijkpdgimaaGreatDoor
