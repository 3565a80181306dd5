
/-
  The reader of drawn numbers.
-/
import Derived.Test.YtakphmcelhbaiabReach
import Derived.Test.YtakphmcelhbaiabProg
import Derived.RegionTactic
import Derived.Deep.QuietTactic
import Derived.BigQuiet
import Derived.ProofKit
import Derived.Handy
import Derived.Laws.BitsAllLaws
import Derived.Laws.BitsLemmas
namespace Go.Proofs.Ytakphmcelhbaiab
open Go.RowKit
set_option linter.unusedVariables false

abbrev bytesV (zs : List Int) : List Value := zs.map (Value.int .u8)
theorem Row.byte {w : World} {A : Option Addr} {zs : List Int} {k : Nat} (h : Row w A (bytesV zs)) (hk : k < zs.length) : ∃ ad, A = some ad ∧ w.cell? (ad.add k) = some (.int .u8 (zs[k]?.getD 0)) := by
  obtain ⟨ad, e, hc⟩ := h k (by simpa using hk)
  exact ⟨ad, e, by rw [hc]; simp [List.getElem?_eq_getElem hk]⟩
/-- Block R holds a reader: at most 2000 bytes below block B, and a place that is at most N. -/
def Reader (w : World) (R B N : Nat) : Prop := ∃ A c zs p, Box w R 55 #[.slice A (List.length zs) c, .int .i64 (p : Nat)] ∧ Row w A (bytesV zs) ∧ (zs.length = 0 ∨ ∀ ad, A = some ad → ad.block < B) ∧ B ≤ R ∧ zs.length ≤ 2000 ∧ Hid (∀ z ∈ zs, 0 ≤ z ∧ z ≤ 255) ∧ p ≤ N
theorem Reader.mono {w : World} {R B N N' : Nat} (h : Reader w R B N) (hn : N ≤ N') : Reader w R B N' := by
  obtain ⟨A, c, zs, p, a, b, d, e, f, g, i⟩ := h
  exact ⟨A, c, zs, p, a, b, d, e, f, g, Nat.le_trans i hn⟩
theorem Reader.then {w w' : World} {R B N : Nat} (h : Reader w R B N) (hb : Below w.heap.size w w') : Reader w' R B N := by
  obtain ⟨A, c, zs, p, a, b, d, e, f, g, i⟩ := h
  exact ⟨A, c, zs, p, a.then hb, b.below hb, d, e, f, g, i⟩
def Picked (n : Int) (R B N : Nat) (w : World) (e : Ending) (w' : World) : Prop := ∃ x : Int, e = .returned (.int .i64 x) ∧ (1 ≤ n → 0 ≤ x ∧ x < n) ∧ (n < 1 → x = 0) ∧ Reader w' R B (N + 1) ∧ w.grownBy w' (some R)

theorem xor_nat (a b : Nat) (ha : a < 9223372036854775808) (hb : b < 9223372036854775808) : bits .xor .i64 (a : Int) (b : Int) = ((a ^^^ b : Nat) : Int) := by
  have one : ∀ m : Nat, m < 9223372036854775808 → (BitVec.ofInt 64 (m : Int)).toNat = m := fun m hm => by
    rw [BitVec.ofInt_natCast, BitVec.toNat_ofNat]; exact Nat.mod_eq_of_lt (by omega)
  have hx : a ^^^ b < 2 ^ 63 := Nat.xor_lt_two_pow (by omega) (by omega)
  show IntKind.i64.wrap ((BitVec.ofInt 64 (a : Int) ^^^ BitVec.ofInt 64 (b : Int)).toNat : Int) = _
  rw [BitVec.toNat_xor, one a ha, one b hb, IntKind.wrap_i64]
  omega

theorem grown_set {w : World} {R : Nat} (i : Nat) (u : Value) : w.grownBy (w.setCell ⟨R, i, none⟩ u) (some R) :=
  ⟨rfl, rfl, rfl, by simp [World.setCell], fun k hk hne => Below.heap_setCell w _ u k (fun e => hne (by rw [e]))⟩
theorem grown_drewN {w w' : World} {r : Option Nat} (h : w.grownBy w' r) (n : Nat) : w.grownBy (w'.drewN n) r := ⟨h.os, h.tape, h.output, h.size, h.block⟩

set_option maxHeartbeats 1000000 in
set_option maxRecDepth 100000 in
theorem pick_c (n : Int) (R B N : Nat) (w : World) (h : Reader w R B N) (hN : N ≤ 1000000) (n1 : -1000000 ≤ n) (n2 : n ≤ 1000000) :
    Calls Try.prog 39 #[.pointer (some ⟨R, 0, none⟩), .int .i64 n] w (Picked n R B N w) := by
  obtain ⟨A, c, zs, p, hbox, hrow, hA, hBR, hlen, hz, hp⟩ := h
  have c0 := hbox.cell 0
  have c1 := hbox.cell 1
  have f1 := hbox.free 1
  have b2 := hbox.set 1 (.int .i64 ((p : Int) + 1))
  have d0 := b2.cell 0
  have d1 := b2.cell 1
  have hr2 : Row (w.setCell ⟨R, 1, none⟩ (.int .i64 ((p : Int) + 1))) A (bytesV zs) := by
    rcases hA with hA | hA
    · obtain rfl : zs = [] := List.eq_nil_of_length_eq_zero hA
      exact Row.empty _ _
    · exact hrow.grown (grown_set 1 _) (fun ad e => by have := hA ad e; simp; omega)
  have Hr := hide (show Reader (w.setCell ⟨R, 1, none⟩ (.int .i64 ((p : Int) + 1))) R B (N + 1) from ⟨A, c, zs, p + 1, b2, hr2, hA, hBR, hlen, hz, by omega⟩)
  simp only [Array.setIfInBounds, List.getElem?_toArray] at c0 c1 d0 d1
  by_cases hn : n < 1
  · go_enter Try.func39, Try.ntmps39
    go_wp2_with fail
    go_ret
    exact ⟨0, rfl, by omega, fun _ => rfl, Hr.out, grown_set 1 _⟩
  · by_cases hl0 : zs.length = 0
    · have hl0' : ((zs.length : Int) == 0) = true := by simp [hl0]
      have HL0 := hide hl0
      clear hl0
      go_enter Try.func39, Try.ntmps39
      go_wp2_with fail
      go_ret
      exact ⟨0, rfl, by omega, fun _ => rfl, Hr.out, grown_set 1 _⟩
    · have hl0' : ((zs.length : Int) == 0) = false := by simp; exact fun h => hl0 (by simp [h])
      have hl1 : 1 ≤ zs.length := by omega
      clear hl0
      have cellp : ∀ j, j < zs.length → ∃ ad z, A = some ad ∧ (w.setCell ⟨R, 1, none⟩ (.int .i64 ((p : Int) + 1))).cell? (ad.add j) = some (.int .u8 z) ∧ 0 ≤ z ∧ z ≤ 255 := fun j hj => by
        obtain ⟨ad, e, hc⟩ := hr2.byte hj
        have := hz.out _ (List.getElem_mem hj)
        rw [List.getElem?_eq_getElem hj] at hc
        exact ⟨ad, _, e, hc, this⟩
      by_cases hpl : p < zs.length
      · obtain ⟨ad, z, rfl, hc, z1, z2⟩ := cellp p hpl
        have m1 : 0 ≤ z % n := Int.emod_nonneg _ (by omega)
        have m2 : z % n < n := Int.emod_lt_of_pos _ (by omega)
        clear cellp hr2 hrow
        go_enter Try.func39, Try.ntmps39
        go_wp2_with fail
        go_ret
        exact ⟨z % n, rfl, fun _ => ⟨m1, m2⟩, by omega, Hr.out, grown_set 1 _⟩
      · have k1 : p % zs.length < zs.length := Nat.mod_lt _ (by omega)
        have k2 : (p * 7 + 3) % zs.length < zs.length := Nat.mod_lt _ (by omega)
        obtain ⟨ad, z, rfl, hc, z1, z2⟩ := cellp _ k1
        obtain ⟨_, z', ⟨rfl⟩, hc', z3, z4⟩ := cellp _ k2
        clear cellp hr2 hrow
        have hq : p / zs.length ≤ p := Nat.div_le_self _ _
        obtain ⟨q, hqe⟩ : ∃ q, p / zs.length = q := ⟨_, rfl⟩
        obtain ⟨i1, hi1⟩ : ∃ i, p % zs.length = i := ⟨_, rfl⟩
        obtain ⟨i2, hi2⟩ : ∃ i, (p * 7 + 3) % zs.length = i := ⟨_, rfl⟩
        have t1 : Int.tmod (p : Int) (zs.length : Int) = (i1 : Int) := by rw [← hi1]; rfl
        have t1' : (p : Int) % (zs.length : Int) = (i1 : Int) := by rw [← hi1]; rfl
        have t2 : Int.tmod ((p : Int) * 7 + 3) (zs.length : Int) = (i2 : Int) := by rw [← hi2]; rfl
        have t2' : ((p : Int) * 7 + 3) % (zs.length : Int) = (i2 : Int) := by rw [← hi2]; rfl
        have t3 : Int.tdiv (p : Int) (zs.length : Int) = (q : Int) := by rw [← hqe]; rfl
        have t3' : (p : Int) / (zs.length : Int) = (q : Int) := by rw [← hqe]; rfl
        rw [hi1] at k1 hc
        rw [hi2] at k2 hc'
        rw [hqe] at hq
        clear hqe hi1 hi2
        have e0 : IntKind.i64.wrap z = z := IntWalk.i64_in _ (by omega)
        have e0' : IntKind.i64.wrap z' = z' := IntWalk.i64_in _ (by omega)
        have e1 : IntKind.i64.wrap ((p : Int) * 7) = (p : Int) * 7 := IntWalk.i64_in _ (by omega)
        have e2 : IntKind.i64.wrap ((p : Int) * 7 + 3) = (p : Int) * 7 + 3 := IntWalk.i64_in _ (by omega)
        have e3 : IntKind.i64.wrap (z * 131) = z * 131 := IntWalk.i64_in _ (by omega)
        have e4 : IntKind.i64.wrap (z' * 1117) = z' * 1117 := IntWalk.i64_in _ (by omega)
        have e5 : IntKind.i64.wrap (z * 131 + z' * 1117) = z * 131 + z' * 1117 := IntWalk.i64_in _ (by omega)
        have e6 : IntKind.i64.wrap ((p : Int) * 29) = (p : Int) * 29 := IntWalk.i64_in _ (by omega)
        have e7 : IntKind.i64.wrap (z * 131 + z' * 1117 + (p : Int) * 29) = z * 131 + z' * 1117 + (p : Int) * 29 := IntWalk.i64_in _ (by omega)
        have e8 : IntKind.i64.wrap ((q : Int) * 53) = (q : Int) * 53 := IntWalk.i64_in _ (by omega)
        have e9 : IntKind.i64.wrap (z * 131 + z' * 1117 + (p : Int) * 29 + (q : Int) * 53) = z * 131 + z' * 1117 + (p : Int) * 29 + (q : Int) * 53 := IntWalk.i64_in _ (by omega)
        go_enter Try.func39, Try.ntmps39
        go_wp2_with fail
        go_quiet (fail)
        clear e0 e0' e1 e2 e3 e4 e5 e6 e7 e8 e9 t1 t1' t2 t2' t3 t3' hc hc' c0 c1 d0 d1 f1
        obtain ⟨x, hx, hx2⟩ : ∃ x : Nat, z * 131 + z' * 1117 + (p : Int) * 29 + (q : Int) * 53 = (x : Int) ∧ x ≤ 1000000000 := ⟨(z * 131 + z' * 1117 + (p : Int) * 29 + (q : Int) * 53).toNat, by omega, by omega⟩
        rw [hx]
        clear hx
        obtain ⟨y, hy⟩ : ∃ y, x ^^^ (x / 64) = y := ⟨_, rfl⟩
        have hxor : bits .xor .i64 (x : Int) ((x : Int) / 64) = (y : Int) := by rw [← hy]; exact xor_nat x (x / 64) (by omega) (by omega)
        have hyb : y < 2 ^ 31 := by rw [← hy]; exact Nat.xor_lt_two_pow (by omega) (by omega)
        clear hy
        have m1 : 0 ≤ (y : Int) % n := Int.emod_nonneg _ (by omega)
        have m2 : (y : Int) % n < n := Int.emod_lt_of_pos _ (by omega)
        go_wp2_with fail
        go_ret
        exact ⟨(y : Int) % n, rfl, fun _ => ⟨m1, m2⟩, by omega, Hr.out, grown_drewN (grown_set 1 _) _⟩

theorem Reader.grown_alloc {w : World} {R B N : Nat} (o : Obj) (h : Reader w R B N) : Reader (w.alloc o) R B N := h.then ((Below.refl _ _).alloc (Nat.le_refl _) _)
theorem Reader.lt {w : World} {R B N : Nat} (h : Reader w R B N) : R < w.heap.size := by
  obtain ⟨A, c, zs, p, hb, _⟩ := h
  exact hb.in_
/-- A row of another block stands where the reader has read. -/
theorem Row.aside {w w' : World} {A : Option Addr} {cs : List Value} {R : Nat} (h : Row w A cs) (hg : w.grownBy w' (some R)) (hne : ∀ ad, A = some ad → ad.block ≠ R) : Row w' A cs :=
  h.grown hg (fun ad e x => hne ad e (by injection x with x; exact x.symm))

/-- The end of a call that draws one of some numbers. -/
def Drawn (P : Int → Prop) (R B N : Nat) (w : World) (e : Ending) (w' : World) : Prop := ∃ x : Int, e = .returned (.int .i64 x) ∧ P x ∧ Reader w' R B N ∧ w.grownBy w' (some R)
set_option maxHeartbeats 400000 in
theorem one_c (L : Option Addr) (c : Nat) (xs : List Int) (R B N : Nat) (w : World) (h : Reader w R B N) (hr : Row w L (ints xs)) (hne : ∀ ad, L = some ad → ad.block ≠ R) (hN : N ≤ 1000000) (h0 : 0 < xs.length) (h1 : xs.length ≤ 1000) :
    Calls Try.prog 38 #[.pointer (some ⟨R, 0, none⟩), .slice L xs.length c] w (Drawn (· ∈ xs) R B (N + 1) w) := by
  have hpick := pick_c (xs.length : Int) R B N w h hN (by omega) (by omega)
  have HP := hide hpick
  have HNE := hide hne
  clear hpick hne
  go_enter Try.func38, Try.ntmps38
  go_wp2_with fail
  refine HP.out.mono ?_
  rintro e w1 ⟨x, rfl, p1, _, rd, hg⟩
  obtain ⟨x1, x2⟩ := p1 (by omega)
  obtain ⟨i, rfl⟩ := Int.eq_ofNat_of_zero_le x1
  clear p1 x1
  have hi : i < xs.length := by omega
  have Hmem := hide (List.getElem_mem hi)
  obtain ⟨ad, rfl, hc⟩ := (hr.aside hg HNE.out).int hi
  obtain ⟨y, hy⟩ : ∃ y, xs[i]?.getD 0 = y := ⟨_, rfl⟩
  have Hy := hide (show xs[i] = y by rw [← hy, List.getElem?_eq_getElem hi]; rfl)
  rw [hy] at hc
  clear hy
  go_wp2_with fail
  go_ret
  exact ⟨y, rfl, by rw [← Hy.out]; exact Hmem.out, rd, hg⟩
set_option maxHeartbeats 400000 in
theorem of_c (L : Option Addr) (c : Nat) (xs : List ByteArray) (R B N : Nat) (w : World) (h : Reader w R B N) (hr : Row w L (xs.map Value.string)) (hne : ∀ ad, L = some ad → ad.block ≠ R) (hN : N ≤ 1000000) (h0 : 0 < xs.length) (h1 : xs.length ≤ 1000) :
    Calls Try.prog 40 #[.pointer (some ⟨R, 0, none⟩), .slice L xs.length c] w fun e w' => ∃ s : ByteArray, e = .returned (.string s) ∧ s ∈ xs ∧ Reader w' R B (N + 1) ∧ w.grownBy w' (some R) := by
  have hpick := pick_c (xs.length : Int) R B N w h hN (by omega) (by omega)
  have HP := hide hpick
  have HNE := hide hne
  clear hpick hne
  go_enter Try.func40, Try.ntmps40
  go_wp2_with fail
  refine HP.out.mono ?_
  rintro e w1 ⟨x, rfl, p1, _, rd, hg⟩
  obtain ⟨x1, x2⟩ := p1 (by omega)
  obtain ⟨i, rfl⟩ := Int.eq_ofNat_of_zero_le x1
  clear p1 x1
  have hi : i < xs.length := by omega
  obtain ⟨ad, rfl, hc⟩ := (hr.aside hg HNE.out).at_ (k := i) (by simpa using hi)
  obtain ⟨y, hy, hm⟩ : ∃ y, (xs.map Value.string)[i]?.getD undef = .string y ∧ y ∈ xs := ⟨xs[i], by simp [List.getElem?_eq_getElem hi], List.getElem_mem hi⟩
  rw [hy] at hc
  have Hm := hide hm
  clear hy hm
  go_wp2_with fail
  go_ret
  exact ⟨y, rfl, Hm.out, rd, hg⟩
end Go.Proofs.Ytakphmcelhbaiab
