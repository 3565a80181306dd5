/-
  DrawA, DrawB, DrawC, CodeWords, DrawN in one text.
-/
import Derived.Test.YtmfdlijkpdgimaaGreatDoorPureM
import Derived.Test.YtmfdlijkpdgimaaGreatDoorProg
import Derived.RegionTactic
import Derived.Deep.QuietTactic
import Derived.BigQuiet
import Derived.ProofKit
import Derived.Handy
import Derived.Laws.BitsAllLaws
import Derived.Laws.BitsLemmas
import Derived.OwnWalk
import Derived.Test.YtmfdlijkpdgimaaGreatDoorDesksM
import Derived.Deep.RegionHeld3
/-
  The reader of drawn numbers.
-/
namespace Go.Proofs.YtmfdlijkpdgimaaGreatDoor
open Go.RowKit
set_option linter.unusedVariables false

abbrev bytesV (zs : List Int) : List Value := zs.map (Value.int .u8)
theorem Row.byte {w : World} {A : Option Addr} {zs : List Int} {k : Nat} (h : Row w A (bytesV zs)) (hk : k < zs.length) : ∃ ad, A = some ad ∧ w.cell? (ad.add k) = some (.int .u8 (zs[k]?.getD 0)) := by
  obtain ⟨ad, e, hc⟩ := h k (by simpa using hk)
  exact ⟨ad, e, by rw [hc]; simp [List.getElem?_eq_getElem hk]⟩
/-- Block R holds a reader: at most 2000 bytes below block B, and a place that is at most N. -/
def Reader (w : World) (R B N : Nat) : Prop := ∃ A c zs p, Box w R 53 #[.slice A (List.length zs) c, .int .i64 (p : Nat)] ∧ Row w A (bytesV zs) ∧ (zs.length = 0 ∨ ∀ ad, A = some ad → ad.block < B) ∧ B ≤ R ∧ zs.length ≤ 2000 ∧ Hid (∀ z ∈ zs, 0 ≤ z ∧ z ≤ 255) ∧ p ≤ N
theorem Reader.mono {w : World} {R B N N' : Nat} (h : Reader w R B N) (hn : N ≤ N') : Reader w R B N' := by
  obtain ⟨A, c, zs, p, a, b, d, e, f, g, i⟩ := h
  exact ⟨A, c, zs, p, a, b, d, e, f, g, Nat.le_trans i hn⟩
theorem Reader.then {w w' : World} {R B N : Nat} (h : Reader w R B N) (hb : Below w.heap.size w w') : Reader w' R B N := by
  obtain ⟨A, c, zs, p, a, b, d, e, f, g, i⟩ := h
  exact ⟨A, c, zs, p, a.then hb, b.below hb, d, e, f, g, i⟩
def Picked (n : Int) (R B N : Nat) (w : World) (e : Ending) (w' : World) : Prop := ∃ x : Int, e = .returned (.int .i64 x) ∧ (1 ≤ n → 0 ≤ x ∧ x < n) ∧ (n < 1 → x = 0) ∧ Reader w' R B (N + 1) ∧ w.grownBy w' (some R)

theorem xor_nat (a b : Nat) (ha : a < 9223372036854775808) (hb : b < 9223372036854775808) : bits .xor .i64 (a : Int) (b : Int) = ((a ^^^ b : Nat) : Int) := by
  have one : ∀ m : Nat, m < 9223372036854775808 → (BitVec.ofInt 64 (m : Int)).toNat = m := fun m hm => by
    rw [BitVec.ofInt_natCast, BitVec.toNat_ofNat]; exact Nat.mod_eq_of_lt (by omega)
  have hx : a ^^^ b < 2 ^ 63 := Nat.xor_lt_two_pow (by omega) (by omega)
  show IntKind.i64.wrap ((BitVec.ofInt 64 (a : Int) ^^^ BitVec.ofInt 64 (b : Int)).toNat : Int) = _
  rw [BitVec.toNat_xor, one a ha, one b hb, IntKind.wrap_i64]
  omega

theorem grown_set {w : World} {R : Nat} (i : Nat) (u : Value) : w.grownBy (w.setCell ⟨R, i, none⟩ u) (some R) :=
  ⟨rfl, rfl, rfl, by simp [World.setCell], fun k hk hne => Below.heap_setCell w _ u k (fun e => hne (by rw [e]))⟩
theorem grown_drewN {w w' : World} {r : Option Nat} (h : w.grownBy w' r) (n : Nat) : w.grownBy (w'.drewN n) r := ⟨h.os, h.tape, h.output, h.size, h.block⟩

set_option maxHeartbeats 1000000 in
set_option maxRecDepth 100000 in
theorem pick_c (n : Int) (R B N : Nat) (w : World) (h : Reader w R B N) (hN : N ≤ 1000000) (n1 : -1000000 ≤ n) (n2 : n ≤ 1000000) :
    Calls Tryz.prog 16 #[.pointer (some ⟨R, 0, none⟩), .int .i64 n] w (Picked n R B N w) := by
  obtain ⟨A, c, zs, p, hbox, hrow, hA, hBR, hlen, hz, hp⟩ := h
  have c0 := hbox.cell 0
  have c1 := hbox.cell 1
  have f1 := hbox.free 1
  have b2 := hbox.set 1 (.int .i64 ((p : Int) + 1))
  have d0 := b2.cell 0
  have d1 := b2.cell 1
  have hr2 : Row (w.setCell ⟨R, 1, none⟩ (.int .i64 ((p : Int) + 1))) A (bytesV zs) := by
    rcases hA with hA | hA
    · obtain rfl : zs = [] := List.eq_nil_of_length_eq_zero hA
      exact Row.empty _ _
    · exact hrow.grown (grown_set 1 _) (fun ad e => by have := hA ad e; simp; omega)
  have Hr := hide (show Reader (w.setCell ⟨R, 1, none⟩ (.int .i64 ((p : Int) + 1))) R B (N + 1) from ⟨A, c, zs, p + 1, b2, hr2, hA, hBR, hlen, hz, by omega⟩)
  simp only [Array.setIfInBounds, List.getElem?_toArray] at c0 c1 d0 d1
  by_cases hn : n < 1
  · go_enter Tryz.func16, Tryz.ntmps16
    go_wp2_with fail
    go_ret
    exact ⟨0, rfl, by omega, fun _ => rfl, Hr.out, grown_set 1 _⟩
  · by_cases hl0 : zs.length = 0
    · have hl0' : ((zs.length : Int) == 0) = true := by simp [hl0]
      have HL0 := hide hl0
      clear hl0
      go_enter Tryz.func16, Tryz.ntmps16
      go_wp2_with fail
      go_ret
      exact ⟨0, rfl, by omega, fun _ => rfl, Hr.out, grown_set 1 _⟩
    · have hl0' : ((zs.length : Int) == 0) = false := by simp; exact fun h => hl0 (by simp [h])
      have hl1 : 1 ≤ zs.length := by omega
      clear hl0
      have cellp : ∀ j, j < zs.length → ∃ ad z, A = some ad ∧ (w.setCell ⟨R, 1, none⟩ (.int .i64 ((p : Int) + 1))).cell? (ad.add j) = some (.int .u8 z) ∧ 0 ≤ z ∧ z ≤ 255 := fun j hj => by
        obtain ⟨ad, e, hc⟩ := hr2.byte hj
        have := hz.out _ (List.getElem_mem hj)
        rw [List.getElem?_eq_getElem hj] at hc
        exact ⟨ad, _, e, hc, this⟩
      by_cases hpl : p < zs.length
      · obtain ⟨ad, z, rfl, hc, z1, z2⟩ := cellp p hpl
        have m1 : 0 ≤ z % n := Int.emod_nonneg _ (by omega)
        have m2 : z % n < n := Int.emod_lt_of_pos _ (by omega)
        clear cellp hr2 hrow
        go_enter Tryz.func16, Tryz.ntmps16
        go_wp2_with fail
        go_ret
        exact ⟨z % n, rfl, fun _ => ⟨m1, m2⟩, by omega, Hr.out, grown_set 1 _⟩
      · have k1 : p % zs.length < zs.length := Nat.mod_lt _ (by omega)
        have k2 : (p * 7 + 3) % zs.length < zs.length := Nat.mod_lt _ (by omega)
        obtain ⟨ad, z, rfl, hc, z1, z2⟩ := cellp _ k1
        obtain ⟨_, z', ⟨rfl⟩, hc', z3, z4⟩ := cellp _ k2
        clear cellp hr2 hrow
        have hq : p / zs.length ≤ p := Nat.div_le_self _ _
        obtain ⟨q, hqe⟩ : ∃ q, p / zs.length = q := ⟨_, rfl⟩
        obtain ⟨i1, hi1⟩ : ∃ i, p % zs.length = i := ⟨_, rfl⟩
        obtain ⟨i2, hi2⟩ : ∃ i, (p * 7 + 3) % zs.length = i := ⟨_, rfl⟩
        have t1 : Int.tmod (p : Int) (zs.length : Int) = (i1 : Int) := by rw [← hi1]; rfl
        have t1' : (p : Int) % (zs.length : Int) = (i1 : Int) := by rw [← hi1]; rfl
        have t2 : Int.tmod ((p : Int) * 7 + 3) (zs.length : Int) = (i2 : Int) := by rw [← hi2]; rfl
        have t2' : ((p : Int) * 7 + 3) % (zs.length : Int) = (i2 : Int) := by rw [← hi2]; rfl
        have t3 : Int.tdiv (p : Int) (zs.length : Int) = (q : Int) := by rw [← hqe]; rfl
        have t3' : (p : Int) / (zs.length : Int) = (q : Int) := by rw [← hqe]; rfl
        rw [hi1] at k1 hc
        rw [hi2] at k2 hc'
        rw [hqe] at hq
        clear hqe hi1 hi2
        have e0 : IntKind.i64.wrap z = z := IntWalk.i64_in _ (by omega)
        have e0' : IntKind.i64.wrap z' = z' := IntWalk.i64_in _ (by omega)
        have e1 : IntKind.i64.wrap ((p : Int) * 7) = (p : Int) * 7 := IntWalk.i64_in _ (by omega)
        have e2 : IntKind.i64.wrap ((p : Int) * 7 + 3) = (p : Int) * 7 + 3 := IntWalk.i64_in _ (by omega)
        have e3 : IntKind.i64.wrap (z * 131) = z * 131 := IntWalk.i64_in _ (by omega)
        have e4 : IntKind.i64.wrap (z' * 1117) = z' * 1117 := IntWalk.i64_in _ (by omega)
        have e5 : IntKind.i64.wrap (z * 131 + z' * 1117) = z * 131 + z' * 1117 := IntWalk.i64_in _ (by omega)
        have e6 : IntKind.i64.wrap ((p : Int) * 29) = (p : Int) * 29 := IntWalk.i64_in _ (by omega)
        have e7 : IntKind.i64.wrap (z * 131 + z' * 1117 + (p : Int) * 29) = z * 131 + z' * 1117 + (p : Int) * 29 := IntWalk.i64_in _ (by omega)
        have e8 : IntKind.i64.wrap ((q : Int) * 53) = (q : Int) * 53 := IntWalk.i64_in _ (by omega)
        have e9 : IntKind.i64.wrap (z * 131 + z' * 1117 + (p : Int) * 29 + (q : Int) * 53) = z * 131 + z' * 1117 + (p : Int) * 29 + (q : Int) * 53 := IntWalk.i64_in _ (by omega)
        go_enter Tryz.func16, Tryz.ntmps16
        go_wp2_with fail
        go_quiet (fail)
        clear e0 e0' e1 e2 e3 e4 e5 e6 e7 e8 e9 t1 t1' t2 t2' t3 t3' hc hc' c0 c1 d0 d1 f1
        obtain ⟨x, hx, hx2⟩ : ∃ x : Nat, z * 131 + z' * 1117 + (p : Int) * 29 + (q : Int) * 53 = (x : Int) ∧ x ≤ 1000000000 := ⟨(z * 131 + z' * 1117 + (p : Int) * 29 + (q : Int) * 53).toNat, by omega, by omega⟩
        rw [hx]
        clear hx
        obtain ⟨y, hy⟩ : ∃ y, x ^^^ (x / 64) = y := ⟨_, rfl⟩
        have hxor : bits .xor .i64 (x : Int) ((x : Int) / 64) = (y : Int) := by rw [← hy]; exact xor_nat x (x / 64) (by omega) (by omega)
        have hyb : y < 2 ^ 31 := by rw [← hy]; exact Nat.xor_lt_two_pow (by omega) (by omega)
        clear hy
        have m1 : 0 ≤ (y : Int) % n := Int.emod_nonneg _ (by omega)
        have m2 : (y : Int) % n < n := Int.emod_lt_of_pos _ (by omega)
        go_wp2_with fail
        go_ret
        exact ⟨(y : Int) % n, rfl, fun _ => ⟨m1, m2⟩, by omega, Hr.out, grown_drewN (grown_set 1 _) _⟩

theorem Reader.grown_alloc {w : World} {R B N : Nat} (o : Obj) (h : Reader w R B N) : Reader (w.alloc o) R B N := h.then ((Below.refl _ _).alloc (Nat.le_refl _) _)
theorem Reader.lt {w : World} {R B N : Nat} (h : Reader w R B N) : R < w.heap.size := by
  obtain ⟨A, c, zs, p, hb, _⟩ := h
  exact hb.in_
/-- A row of another block stands where the reader has read. -/
theorem Row.aside {w w' : World} {A : Option Addr} {cs : List Value} {R : Nat} (h : Row w A cs) (hg : w.grownBy w' (some R)) (hne : ∀ ad, A = some ad → ad.block ≠ R) : Row w' A cs :=
  h.grown hg (fun ad e x => hne ad e (by injection x with x; exact x.symm))

/-- The end of a call that draws one of some numbers. -/
def Drawn (P : Int → Prop) (R B N : Nat) (w : World) (e : Ending) (w' : World) : Prop := ∃ x : Int, e = .returned (.int .i64 x) ∧ P x ∧ Reader w' R B N ∧ w.grownBy w' (some R)
set_option maxHeartbeats 400000 in
theorem one_c (L : Option Addr) (c : Nat) (xs : List Int) (R B N : Nat) (w : World) (h : Reader w R B N) (hr : Row w L (ints xs)) (hne : ∀ ad, L = some ad → ad.block ≠ R) (hN : N ≤ 1000000) (h0 : 0 < xs.length) (h1 : xs.length ≤ 1000) :
    Calls Tryz.prog 13 #[.pointer (some ⟨R, 0, none⟩), .slice L xs.length c] w (Drawn (· ∈ xs) R B (N + 1) w) := by
  have hpick := pick_c (xs.length : Int) R B N w h hN (by omega) (by omega)
  have HP := hide hpick
  have HNE := hide hne
  clear hpick hne
  go_enter Tryz.func13, Tryz.ntmps13
  go_wp2_with fail
  refine HP.out.mono ?_
  rintro e w1 ⟨x, rfl, p1, _, rd, hg⟩
  obtain ⟨x1, x2⟩ := p1 (by omega)
  obtain ⟨i, rfl⟩ := Int.eq_ofNat_of_zero_le x1
  clear p1 x1
  have hi : i < xs.length := by omega
  have Hmem := hide (List.getElem_mem hi)
  obtain ⟨ad, rfl, hc⟩ := (hr.aside hg HNE.out).int hi
  obtain ⟨y, hy⟩ : ∃ y, xs[i]?.getD 0 = y := ⟨_, rfl⟩
  have Hy := hide (show xs[i] = y by rw [← hy, List.getElem?_eq_getElem hi]; rfl)
  rw [hy] at hc
  clear hy
  go_wp2_with fail
  go_ret
  exact ⟨y, rfl, by rw [← Hy.out]; exact Hmem.out, rd, hg⟩
set_option maxHeartbeats 400000 in
theorem of_c (L : Option Addr) (c : Nat) (xs : List ByteArray) (R B N : Nat) (w : World) (h : Reader w R B N) (hr : Row w L (xs.map Value.string)) (hne : ∀ ad, L = some ad → ad.block ≠ R) (hN : N ≤ 1000000) (h0 : 0 < xs.length) (h1 : xs.length ≤ 1000) :
    Calls Tryz.prog 14 #[.pointer (some ⟨R, 0, none⟩), .slice L xs.length c] w fun e w' => ∃ s : ByteArray, e = .returned (.string s) ∧ s ∈ xs ∧ Reader w' R B (N + 1) ∧ w.grownBy w' (some R) := by
  have hpick := pick_c (xs.length : Int) R B N w h hN (by omega) (by omega)
  have HP := hide hpick
  have HNE := hide hne
  clear hpick hne
  go_enter Tryz.func14, Tryz.ntmps14
  go_wp2_with fail
  refine HP.out.mono ?_
  rintro e w1 ⟨x, rfl, p1, _, rd, hg⟩
  obtain ⟨x1, x2⟩ := p1 (by omega)
  obtain ⟨i, rfl⟩ := Int.eq_ofNat_of_zero_le x1
  clear p1 x1
  have hi : i < xs.length := by omega
  obtain ⟨ad, rfl, hc⟩ := (hr.aside hg HNE.out).at_ (k := i) (by simpa using hi)
  obtain ⟨y, hy, hm⟩ : ∃ y, (xs.map Value.string)[i]?.getD undef = .string y ∧ y ∈ xs := ⟨xs[i], by simp [List.getElem?_eq_getElem hi], List.getElem_mem hi⟩
  rw [hy] at hc
  have Hm := hide hm
  clear hy hm
  go_wp2_with fail
  go_ret
  exact ⟨y, rfl, Hm.out, rd, hg⟩
end Go.Proofs.YtmfdlijkpdgimaaGreatDoor

/-
  Drawn kinds, boards, cells.
-/
namespace Go.Proofs.YtmfdlijkpdgimaaGreatDoor
open Go.RowKit
set_option linter.unusedVariables false

/-- A slice of drawn bytes: what a law is handed. -/
def Code (w : World) (A : Option Addr) (n c : Nat) : Prop := ∃ zs : List Int, zs.length = n ∧ n ≤ c ∧ c ≤ maxLen ∧ Row w A (bytesV zs) ∧ Hid (∀ z ∈ zs, 0 ≤ z ∧ z ≤ 255)
def Newly (w : World) (e : Ending) (w' : World) : Prop := ∃ R, e = .returned (.pointer (some ⟨R, 0, none⟩)) ∧ Reader w' R w.heap.size 0 ∧ Below w.heap.size w w'
theorem code_lt {w : World} {A : Option Addr} {zs : List Int} (h : Row w A (bytesV zs)) : zs.length = 0 ∨ ∀ ad, A = some ad → ad.block < w.heap.size := by
  rcases Nat.eq_zero_or_pos zs.length with h0 | h0
  · exact .inl h0
  · right
    intro ad e
    obtain ⟨ad', e', hc⟩ := h 0 (by simpa using h0)
    have : ad = ad' := by rw [e] at e'; injection e'
    subst this
    have := World.block_lt_of_cell? w _ hc
    rwa [addr_block] at this
theorem Row.bytes_upto {w : World} {A : Option Addr} {zs : List Int} (h : Row w A (bytesV zs)) (j : Nat) : Row w A (bytesV (zs.take j)) := fun i hi => by
  simp only [List.length_map, List.length_take] at hi
  obtain ⟨ad, e, hc⟩ := h i (by simp; omega)
  exact ⟨ad, e, by rw [hc]; simp⟩
set_option maxHeartbeats 400000 in
theorem newReader_c (A : Option Addr) (n c : Nat) (w : World) (h : Code w A n c) : Calls Tryz.prog 12 #[.slice A n c] w (Newly w) := by
  obtain ⟨zs, rfl, hc1, hc2, hr, hz⟩ := h
  unfold maxLen at hc2
  have hlt := hide (code_lt hr)
  have b1 : (zs.length : Int) ≤ (c : Int) := by omega
  by_cases hl : 2000 < (zs.length : Int)
  · have hl2 : (2000 : Int) ≤ (c : Int) := by omega
    have hr' := hr.bytes_upto 2000
    have HE : Hid (∀ w', Box w' w.heap.size 53 #[.slice A 2000 c, .int .i64 0] → Row w' A (bytesV (zs.take 2000)) → Reader w' w.heap.size w.heap.size 0) := fun w' hb hrow =>
      ⟨A, c, zs.take 2000, 0, by rw [show (zs.take 2000).length = 2000 by simp; omega]; exact hb, hrow, by
        rcases hlt.out with h | h
        · omega
        · exact .inr h, Nat.le_refl _, by simp; omega, fun z h => hz.out z (List.mem_of_mem_take h), Nat.le_refl _⟩
    go_enter Tryz.func12, Tryz.ntmps12
    go_wp2_with fail
    go_ret
    exact ⟨_, rfl, HE.out _ (Box.new _ _ _) (hr'.alloc _), (Below.refl _ _).alloc (Nat.le_refl _) _⟩
  · have HE : Hid (∀ w', Box w' w.heap.size 53 #[.slice A zs.length c, .int .i64 0] → Row w' A (bytesV zs) → Reader w' w.heap.size w.heap.size 0) := fun w' hb hrow =>
      ⟨A, c, zs, 0, hb, hrow, hlt.out, Nat.le_refl _, by omega, hz, Nat.le_refl _⟩
    go_enter Tryz.func12, Tryz.ntmps12
    go_wp2_with fail
    go_ret
    exact ⟨_, rfl, HE.out _ (Box.new _ _ _) (hr.alloc _), (Below.refl _ _).alloc (Nat.le_refl _) _⟩

def SomeKind (R B N : Nat) (w : World) (e : Ending) (w' : World) : Prop := ∃ s : ByteArray, e = .returned (.string s) ∧ s.size ≤ 6 ∧ Reader w' R B N ∧ w.grownBy w' (some R)
def SomeBoard (R B N : Nat) (w : World) (e : Ending) (w' : World) : Prop := ∃ x y : Int, e = .returned (.tuple #[.int .i64 x, .int .i64 y]) ∧ (-1 ≤ x ∧ x ≤ 6) ∧ (-1 ≤ y ∧ y ≤ 6) ∧ Reader w' R B N ∧ w.grownBy w' (some R)
theorem one_new (xs : List Int) (R B N : Nat) (w : World) (h : Reader w R B N) (hN : N ≤ 1000000) (h0 : 0 < xs.length) (h1 : xs.length ≤ 1000) :
    Calls Tryz.prog 13 #[.pointer (some ⟨R, 0, none⟩), .slice (some ⟨w.heap.size, 0, none⟩) xs.length xs.length] (w.alloc (.cells (ints xs).toArray 3)) (Drawn (· ∈ xs) R B (N + 1) w) :=
  (one_c _ _ xs R B N _ (h.grown_alloc _) (row_new w _ _ rfl) (fun ad e => by injection e with e; subst e; show w.heap.size ≠ R; have := h.lt; omega) hN h0 h1).mono fun e w' ⟨x, he, hm, rd, hg⟩ => ⟨x, he, hm, rd, (World.grownBy_alloc w _ _).trans hg⟩
end Go.Proofs.YtmfdlijkpdgimaaGreatDoor

/-
  Drawn cells; the drawn arguments of the functions of chapter 1.
-/
namespace Go.Proofs.YtmfdlijkpdgimaaGreatDoor
open Go.RowKit
set_option linter.unusedVariables false

theorem elem_intd : Elem Tryz.prog 3 1 8 := Elem.of (z := .int .i64 0) (by kernel_rfl) rfl (by omega)
theorem grown_own {w w1 w2 : World} {R base e size n : Nat} {v : Value} {xs : List Value} (h : w.grownBy w1 (some R)) (hown : w1.ownsRow base e size v n xs) (hb : w.heap.size ≤ base) (hg : w1.grownBy w2 v.ownBlock) : w.grownBy w2 (some R) :=
  ⟨hg.os.trans h.os, hg.tape.trans h.tape, hg.output.trans h.output, Nat.le_trans h.size hg.size, fun k hk hne => by
    rw [hg.block k (Nat.lt_of_lt_of_le hk h.size) (fun e => by have := (hown.lt k e.symm).1; omega)]
    exact h.block k hk hne⟩
theorem Reader.grown {w w' : World} {R B N : Nat} {r : Option Nat} (h : Reader w R B N) (hg : w.grownBy w' r) (hr : ∀ k, r = some k → R < k) : Reader w' R B N := by
  obtain ⟨A, c, zs, p, a, b, d, e, f, g, i⟩ := h
  refine ⟨A, c, zs, p, a.grown hg (fun x => by have := hr R x; omega), ?_, d, e, f, g, i⟩
  rcases d with d | d
  · obtain rfl : zs = [] := List.eq_nil_of_length_eq_zero d
    exact Row.empty _ _
  · exact b.grown hg (fun ad x y => by have := hr _ y; have := d ad x; omega)
theorem own_aside {w w' : World} {base e size n R : Nat} {v : Value} {xs : List Value} (h : w.ownsRow base e size v n xs) (hR : R < base) (hg : w.grownBy w' (some R)) : w'.ownsRow base e size v n xs :=
  h.kept hg (by
    cases hk : v.ownBlock with
    | none => exact .inl rfl
    | some k =>
      right
      intro x
      injection x with x
      have := (h.lt k hk).1
      omega)
def SomeCells (R B N : Nat) (w : World) (e : Ending) (w' : World) : Prop := ∃ v xs, e = .returned v ∧ w'.ownsRow w.heap.size 3 1 v (List.length xs) (ints xs) ∧ xs.length ≤ 40 ∧ Reader w' R B N ∧ w.grownBy w' (some R)
theorem results_tmp4 {fn : Func} {t u v x : Tmp} (h : fn.results = #[.tmp t, .tmp u, .tmp v, .tmp x]) (tmps : Array Value) (P : Program) (w : World) :
    (results fn tmps).run P w = .ok (.tuple #[tmps.getD t undef, tmps.getD u undef, tmps.getD v undef, tmps.getD x undef]) w := by simp [results, h]
theorem results_tmp5 {fn : Func} {t u v x y : Tmp} (h : fn.results = #[.tmp t, .tmp u, .tmp v, .tmp x, .tmp y]) (tmps : Array Value) (P : Program) (w : World) :
    (results fn tmps).run P w = .ok (.tuple #[tmps.getD t undef, tmps.getD u undef, tmps.getD v undef, tmps.getD x undef, tmps.getD y undef]) w := by simp [results, h]
/-- Behind a reader of its own a call has turned nothing that was there. -/
theorem below_reader {w w1 w2 : World} {R : Nat} (hb : Below w.heap.size w w1) (hR : w.heap.size ≤ R) (hg : w1.grownBy w2 (some R)) : Below w.heap.size w w2 :=
  hb.grown hg hb.size (fun k e => by injection e with e; omega)
def DrawnKind (w : World) (e : Ending) (w' : World) : Prop := ∃ s : ByteArray, e = .returned (.string s) ∧ s.size ≤ 6 ∧ Below w.heap.size w w'
def DrawnBoard (w : World) (e : Ending) (w' : World) : Prop := ∃ (x y : Int) (s : ByteArray), e = .returned (.tuple #[.int .i64 x, .int .i64 y, .string s]) ∧ (-1 ≤ x ∧ x ≤ 6) ∧ (-1 ≤ y ∧ y ≤ 6) ∧ s.size ≤ 6 ∧ Below w.heap.size w w'
def DrawnCell (w : World) (e : Ending) (w' : World) : Prop := ∃ (x y c : Int) (s : ByteArray), e = .returned (.tuple #[.int .i64 x, .int .i64 y, .string s, .int .i64 c]) ∧ (-1 ≤ x ∧ x ≤ 6) ∧ (-1 ≤ y ∧ y ≤ 6) ∧ (-1001 ≤ c ∧ c ≤ 1000) ∧ s.size ≤ 6 ∧ Below w.heap.size w w'
def DrawnReach (w : World) (e : Ending) (w' : World) : Prop := ∃ (x y c : Int) (s : ByteArray) (v : Value) (xs : List Int), e = .returned (.tuple #[.int .i64 x, .int .i64 y, .string s, .int .i64 c, v]) ∧ (-1 ≤ x ∧ x ≤ 6) ∧ (-1 ≤ y ∧ y ≤ 6) ∧ (-1001 ≤ c ∧ c ≤ 1000) ∧ s.size ≤ 6 ∧ w'.ownsRow w.heap.size 3 1 v xs.length (ints xs) ∧ xs.length ≤ 40 ∧ Below w.heap.size w w'
theorem prod_bd {x y : Int} (h1 : -1 ≤ x ∧ x ≤ 6) (h2 : -1 ≤ y ∧ y ≤ 6) : -36 ≤ x * y ∧ x * y ≤ 36 := by
  obtain ⟨a, b⟩ := h1
  have : x = -1 ∨ x = 0 ∨ x = 1 ∨ x = 2 ∨ x = 3 ∨ x = 4 ∨ x = 5 ∨ x = 6 := by omega
  rcases this with rfl | rfl | rfl | rfl | rfl | rfl | rfl | rfl <;> omega

end Go.Proofs.YtmfdlijkpdgimaaGreatDoor

/-
  What a law's shell knows of its code.
-/
namespace Go.Proofs.YtmfdlijkpdgimaaGreatDoor
open Go.RowKit
set_option linter.unusedVariables false

/-- What the law's shell knows of its code. -/
theorem code_of {w : World} {a : Option Addr} {len cap : Nat} {zs : List Int}
    (h : (a = none ∧ len = 0 ∧ cap = 0 ∧ zs = []) ∨ ∃ x, a = some x ∧ len ≤ cap ∧ cap ≤ maxLen ∧ zs.length = cap ∧ (∀ i, i < zs.length → w.cell? (x.add i) = some (.int .u8 (zs.getD i 0))) ∧ ∀ n ∈ zs, (Lit.int .u8 n).wf = true) : Code w a len cap := by
  rcases h with ⟨rfl, rfl, rfl, rfl⟩ | ⟨x, rfl, hl, hm, hz, hc, hw⟩
  · exact ⟨[], rfl, Nat.le_refl _, by simp [maxLen], Row.empty _ _, fun z h => by cases h⟩
  · refine ⟨zs.take len, by simp; omega, hl, hm, fun j hj => ⟨x, rfl, ?_⟩, fun z h => ?_⟩
    · simp only [List.length_map, List.length_take] at hj
      rw [hc j (by omega)]
      simp [List.getElem?_eq_getElem (show j < zs.length by omega)]
    · have := hw z (List.mem_of_mem_take h)
      simp [Lit.wf, IntKind.min, IntKind.max, IntKind.bits, IntKind.signed] at this
      omega
end Go.Proofs.YtmfdlijkpdgimaaGreatDoor

/-
  The drawn lines of a desk: mutate.
-/
namespace Go.Proofs.YtmfdlijkpdgimaaGreatDoor
open Go.RowKit
set_option linter.unusedVariables false

theorem of_new (xs : List ByteArray) (R B N : Nat) (w : World) (h : Reader w R B N) (hN : N ≤ 1000000) (h0 : 0 < xs.length) (h1 : xs.length ≤ 1000) :
    Calls Tryz.prog 14 #[.pointer (some ⟨R, 0, none⟩), .slice (some ⟨w.heap.size, 0, none⟩) xs.length xs.length] (w.alloc (.cells (xs.map Value.string).toArray 9)) fun e w' => ∃ s : ByteArray, e = .returned (.string s) ∧ s ∈ xs ∧ Reader w' R B (N + 1) ∧ w.grownBy w' (some R) :=
  (of_c _ _ xs R B N _ (h.grown_alloc _) (row_new w _ _ rfl) (fun ad e => by injection e with e; subst e; show w.heap.size ≠ R; have := h.lt; omega) hN h0 h1).mono fun e w' ⟨x, he, hm, rd, hg⟩ => ⟨x, he, hm, rd, (World.grownBy_alloc w _ _).trans hg⟩
def Mutated (n R B N : Nat) (w : World) (e : Ending) (w' : World) : Prop := ∃ t : ByteArray, e = .returned (.string t) ∧ t.size ≤ n + 2 ∧ Reader w' R B N ∧ w.grownBy w' (some R)
set_option maxHeartbeats 4000000 in
set_option maxRecDepth 100000 in
theorem mutate_c (s : ByteArray) (R B N : Nat) (w : World) (h : Reader w R B N) (hN : N ≤ 900000) (hs : s.size ≤ 100000) : Calls Tryz.prog 17 #[.pointer (some ⟨R, 0, none⟩), .string s] w (Mutated s.size R B (N + 3) w) := by
  have e0 : IntKind.i64.wrap ((s.size : Int) + 1) = (s.size : Int) + 1 := IntWalk.i64_in _ (by omega)
  have hP := hide (pick_c ((s.size : Int) + 1) R B N w h (by omega) (by omega) (by omega))
  go_enter Tryz.func17, Tryz.ntmps17
  go_wp2_with fail
  refine hP.out.mono ?_
  rintro e w1 ⟨k, rfl, p1, _, rd1, hg1⟩
  obtain ⟨k0, k1⟩ := p1 (by omega)
  obtain ⟨k, rfl⟩ := Int.eq_ofNat_of_zero_le k0
  have hks : k ≤ s.size := by omega
  clear p1 hP h
  have hP2 := hide (pick_c 5 R B (N + 1) w1 rd1 (by omega) (by omega) (by omega))
  go_wp2_with fail
  refine hP2.out.mono ?_
  rintro e w2 ⟨z, rfl, p2, _, rd2, hg2⟩
  obtain ⟨z0, z1⟩ := p2 (by omega)
  have hg2 := hg1.trans hg2
  clear p2 hP2 hg1 rd1
  have e1 : IntKind.i64.wrap ((k : Int) + 1) = (k : Int) + 1 := IntWalk.i64_in _ (by omega)
  have hz : (z = 0 ∨ z = 1) ∨ z = 2 ∨ z = 3 ∨ z = 4 := by omega
  have k2 : (k : Int) ≤ (s.size : Int) := by omega
  clear z0 z1
  rcases hz with (rfl | rfl) | rfl | rfl | rfl
  case inl.inl | inl.inr =>
    by_cases hlt : k < s.size
    · have k3 : (k : Int) < (s.size : Int) := by omega
      have k4 : (k : Int) + 1 ≤ (s.size : Int) := by omega
      have k5 : (0 : Int) ≤ (k : Int) + 1 := by omega
      have k6 : ((k : Int) + 1).toNat = k + 1 := by omega
      have x1 : (s.extract 0 k).size ≤ s.size := by rw [ByteArray.size_extract]; omega
      have x2 : (s.extract 0 k).size + (s.extract (k + 1) s.size).size + 1 ≤ s.size := by rw [ByteArray.size_extract, ByteArray.size_extract]; omega
      have hOF := hide (of_new [⟨#[49]⟩, ⟨#[48]⟩, ⟨#[32]⟩, ⟨#[120]⟩, ⟨#[45]⟩] R B (N + 1 + 1) w2.drew (rd2.then (Below.refl _ _).drew) (by omega) (by decide) (by decide))
      have x3 : (s.extract 0 k).size + 1 ≤ 9223372036854775807 := by omega
      generalize hX : s.extract 0 k = X at *
      generalize hY : s.extract (k + 1) s.size = Y at *
      have HS : ∀ t : ByteArray, t.size ≤ 1 → ¬ (9223372036854775807 < X.size + t.size) ∧ ¬ (9223372036854775807 < X.size + t.size + Y.size) := fun t ht => by omega
      go_wp2_with fail
      go_region_held3 (fun _ => True) (trivial)
        (first
          | (go_at_call 14; refine hOF.out.mono ?_; rintro e w3 ⟨t, rfl, hm, rd3, hg3⟩
             have ht : t.size ≤ 1 := (by
               simp only [List.mem_cons, List.not_mem_nil, or_false] at hm
               rcases hm with rfl | rfl | rfl | rfl | rfl <;> decide)
             obtain ⟨y1, y2⟩ := HS t ht
             clear hm))
      go_wp2_with fail
      go_ret
      exact ⟨_, rfl, by rw [ByteArray.size_append, ByteArray.size_append]; omega, rd3, (grown_drewN hg2 1).trans hg3⟩
    · have k3 : ¬ (k : Int) < (s.size : Int) := by omega
      go_wp2_with fail
      go_ret
      exact ⟨s, rfl, by omega, rd2.mono (by omega), hg2⟩
  case inr.inl =>
    have x1 : (s.extract 0 k).size ≤ s.size := by rw [ByteArray.size_extract]; omega
    go_wp2_with fail
    go_ret
    exact ⟨_, rfl, by omega, rd2.mono (by omega), hg2⟩
  case inr.inr.inl =>
    have hOF := hide (of_new [⟨#[49]⟩, ⟨#[32]⟩, ⟨#[32, 50]⟩, ⟨#[120]⟩] R B (N + 1 + 1) w2 rd2 (by omega) (by decide) (by decide))
    go_wp2_with fail
    refine hOF.out.mono ?_
    rintro e w3 ⟨t, rfl, hm, rd3, hg3⟩
    have ht : t.size ≤ 2 := by
      simp only [List.mem_cons, List.not_mem_nil, or_false] at hm
      rcases hm with rfl | rfl | rfl | rfl <;> decide
    have hsum : s.size + t.size ≤ 9223372036854775807 := by omega
    clear hm
    go_wp2_with fail
    go_ret
    exact ⟨_, rfl, by rw [ByteArray.size_append]; omega, rd3, hg2.trans hg3⟩
  case inr.inr.inr =>
    go_wp2_with fail
    go_ret
    exact ⟨s, rfl, by omega, rd2.mono (by omega), hg2⟩
end Go.Proofs.YtmfdlijkpdgimaaGreatDoor
