
/-
  The model's queens: apart, queensFrom, QueensOf.
-/
import Derived.Test.YtlccohoblplddadQueenP
import Derived.Test.YtlccohoblplddadSpecA
import Derived.Test.YtlccohoblplddadSpecC
import Derived.Test.YtlccohoblplddadLawWords
import Derived.Test.YtlccohoblplddadOwnWords
namespace Go.Proofs.Ytlccohoblplddad
open Go.RowKit
set_option linter.unusedVariables false

def Small (l : List Int) : Prop := l.length ≤ 7 ∧ ∀ i, i < l.length → -1 ≤ l[i]?.getD 0 ∧ l[i]?.getD 0 ≤ 10
set_option maxHeartbeats 400000 in
theorem specApart_c (A : Option Addr) (cc : Nat) (head : List Int) (c : Int) (w : World) (hr : Row w A (ints head)) (hs : Small head) (c0 : -1 ≤ c) (c1 : c ≤ 10) :
    Calls Try.prog 48 #[.slice A head.length cc, .int .i64 c] w fun e w' => e = .returned (.bool (apartP head c)) ∧ w = w' := by
  obtain ⟨hl, hb⟩ := hs
  have HB := hide hb
  have HA := hide (fun (h : apartTo head c head.length) => apart_all h)
  have HN := hide (fun (k : Nat) (hk : k < head.length) (h : withP head c k = false) => apart_not hk h)
  clear hb
  generalize apartP head c = res at *
  go_enter Try.func48, Try.ntmps48
  go_wp2_with fail
  go_loopw [5] (fun i wr => ∃ k : Nat, k ≤ head.length ∧ i = .int .i64 (k : Int) ∧ Hid (apartTo head c k) ∧ w = wr) (fun i _ => head.length - (intOf i).toNat)
  case atStart => exact ⟨0, Nat.zero_le _, rfl, fun i hi => absurd hi (by omega), rfl⟩
  case round =>
    obtain ⟨k, hk, rfl, ha, rfl⟩ := hrel
    by_cases hlt : k < head.length
    · obtain ⟨ad, rfl, hc⟩ := hr.int hlt
      obtain ⟨b0, b1⟩ := HB.out k hlt
      have hw : Hid (withP head c k = !(head[k]?.getD 0 == c || head[k]?.getD 0 - c == (head.length : Int) - (k : Int) || c - head[k]?.getD 0 == (head.length : Int) - (k : Int))) := rfl
      generalize head[k]?.getD 0 = x at *
      obtain ⟨d, hd⟩ : ∃ d : Int, (head.length : Int) - (k : Int) = d := ⟨_, rfl⟩
      rw [hd] at hw
      have ed : IntKind.i64.wrap ((head.length : Int) - (k : Int)) = d := (IntWalk.i64_in _ (by omega)).trans hd
      have k0 : (0 : Int) ≤ (k : Int) := by omega
      have k1 : (k : Int) < (head.length : Int) := by omega
      have e1 : IntKind.i64.wrap (x - c) = x - c := IntWalk.i64_in _ (by omega)
      have e2 : IntKind.i64.wrap (c - x) = c - x := IntWalk.i64_in _ (by omega)
      clear hd
      cases q1 : (x == c) with
      | true =>
        have hf : Hid (withP head c k = false) := by show _ = _; rw [hw.out, q1]; rfl
        clear hw
        go_wp2_with fail
        go_ret
        exact ⟨by rw [HN.out k hlt hf.out]; rfl, rfl⟩
      | false =>
        cases q2 : (x - c == d) with
        | true =>
          have hf : Hid (withP head c k = false) := by show _ = _; rw [hw.out, q1, q2]; rfl
          clear hw
          go_wp2_with fail
          go_ret
          exact ⟨by rw [HN.out k hlt hf.out]; rfl, rfl⟩
        | false =>
          cases q3 : (c - x == d) with
          | true =>
            have hf : Hid (withP head c k = false) := by show _ = _; rw [hw.out, q1, q2, q3]; rfl
            clear hw
            go_wp2_with fail
            go_ret
            exact ⟨by rw [HN.out k hlt hf.out]; rfl, rfl⟩
          | false =>
            have hf : Hid (withP head c k = true) := by show _ = _; rw [hw.out, q1, q2, q3]; rfl
            clear hw
            go_wp2_with fail
            exact ⟨⟨k + 1, hlt, rfl, fun i hi => by
              by_cases e : i = k
              · subst e; exact hf.out
              · exact ha.out i (by omega), trivial⟩, by simp [intOf]; omega⟩
    · have hkl : Hid (k = head.length) := hide (by omega)
      go_wp2_with fail
      go_ret
      exact ⟨by rw [HA.out (by rw [← hkl.out]; exact ha.out)]; rfl, rfl⟩

/-- A slice of so many numbers has room for them. -/
def Room (n c : Nat) : Prop := n ≤ c ∧ c ≤ maxLen
/-- vs are slices, from block B on, that read as the lists L. -/
def Reads (w : World) (B : Nat) (vs : List Value) (L : List (List Int)) : Prop := vs.length = L.length ∧ ∀ i (h : i < L.length), ∃ A c, vs[i]? = some (.slice A (L[i]).length c) ∧ Row w A (ints L[i]) ∧ From B A ∧ Room (L[i]).length c
theorem Reads.below {w w' : World} {B : Nat} {vs : List Value} {L : List (List Int)} (h : Reads w B vs L) (hb : Below w.heap.size w w') : Reads w' B vs L :=
  ⟨h.1, fun i hi => by obtain ⟨A, c, e, hr, hf⟩ := h.2 i hi; exact ⟨A, c, e, hr.below hb, hf⟩⟩
theorem Reads.mono {w : World} {B B' : Nat} {vs : List Value} {L : List (List Int)} (h : Reads w B vs L) (hb : B' ≤ B) : Reads w B' vs L :=
  ⟨h.1, fun i hi => by obtain ⟨A, c, e, hr, hf⟩ := h.2 i hi; exact ⟨A, c, e, hr, hf.1.mono hb, hf.2⟩⟩
theorem Reads.nil (w : World) (B : Nat) : Reads w B [] [] := ⟨rfl, fun i h => by simp at h⟩
theorem Reads.one {w : World} {B : Nat} {A : Option Addr} {c : Nat} {l : List Int} (h : Row w A (ints l)) (hf : From B A) (hc : Room l.length c) : Reads w B [.slice A l.length c] [l] :=
  ⟨rfl, fun i hi => by
    have : i = 0 := by simpa using hi
    subst this
    exact ⟨A, c, rfl, h, hf, hc⟩⟩
theorem Reads.append {w : World} {B : Nat} {vs us : List Value} {L M : List (List Int)} (h : Reads w B vs L) (k : Reads w B us M) : Reads w B (vs ++ us) (L ++ M) :=
  ⟨by rw [List.length_append, List.length_append, h.1, k.1], fun i hi => by
    by_cases hl : i < L.length
    · obtain ⟨A, c, e, hr⟩ := h.2 i hl
      rw [List.getElem_append_left hl]
      exact ⟨A, c, by rw [List.getElem?_append_left (by rw [h.1]; exact hl)]; exact e, hr⟩
    · have hm : i - L.length < M.length := by rw [List.length_append] at hi; omega
      obtain ⟨A, c, e, hr⟩ := k.2 _ hm
      rw [List.getElem_append_right (by omega)]
      exact ⟨A, c, by rw [List.getElem?_append_right (by rw [h.1]; omega), h.1]; exact e, hr⟩⟩
theorem Reads.one_cell {w : World} {B : Nat} {vs : List Value} {L : List (List Int)} (h : Reads w B vs L) : ∀ u ∈ vs, u.oneCell' = true := fun u hu => by
  obtain ⟨i, hi, rfl⟩ := List.getElem_of_mem hu
  obtain ⟨A, c, e, _⟩ := h.2 i (by rw [← h.1]; exact hi)
  rw [List.getElem?_eq_getElem hi] at e
  injection e with e
  rw [e]; rfl
/-- None of the rows lies in block g. -/
def Off (g : Nat) (vs : List Value) : Prop := ∀ (i : Nat) (a : Addr) (n c : Nat), vs[i]? = some (Value.slice (some a) n c) → a.block ≠ g
theorem Off.append {g : Nat} {vs us : List Value} (h : Off g vs) (k : Off g us) : Off g (vs ++ us) := fun i a n c e => by
  by_cases hl : i < vs.length
  · rw [List.getElem?_append_left hl] at e; exact h i a n c e
  · rw [List.getElem?_append_right (by omega)] at e; exact k _ a n c e
theorem Reads.off_low {w : World} {B g : Nat} {vs : List Value} {L : List (List Int)} (h : Reads w B vs L) (hg : g < B) : Off g vs := fun i a n c e => by
  have hi : i < vs.length := (List.getElem?_eq_some_iff.1 e).1
  obtain ⟨A, c', e', _, hf⟩ := h.2 i (by rw [← h.1]; exact hi)
  rw [e] at e'
  injection e' with e'
  injection e' with e'
  have := hf.1 a e'.symm
  omega
theorem Reads.off_new {w : World} {B g : Nat} {vs : List Value} {L : List (List Int)} (h : Reads w B vs L) (hne : ∀ x ∈ L, 1 ≤ x.length) (hg : w.heap.size ≤ g) : Off g vs := fun i a n c e => by
  have hi : i < vs.length := (List.getElem?_eq_some_iff.1 e).1
  have hiL : i < L.length := by rw [← h.1]; exact hi
  obtain ⟨A, c', e', hr, _⟩ := h.2 i hiL
  rw [e] at e'
  injection e' with e'
  injection e' with e'
  subst e'
  obtain ⟨ad, ea, hc⟩ := hr 0 (by have := hne _ (List.getElem_mem hiL); simp; omega)
  injection ea with ea
  subst ea
  have := World.block_lt_of_cell? _ _ hc
  rw [addr_block] at this
  omega
theorem Reads.grown {w w' : World} {B : Nat} {vs : List Value} {L : List (List Int)} {r : Option Nat} (h : Reads w B vs L) (hg : w.grownBy w' r) (hr : ∀ g, r = some g → Off g vs) : Reads w' B vs L :=
  ⟨h.1, fun i hi => by
    obtain ⟨A, c, e, hrow, hf⟩ := h.2 i hi
    exact ⟨A, c, e, hrow.grown hg (fun ad ea hx => by subst ea; exact hr _ hx i ad _ c e rfl), hf⟩⟩
theorem elem_rows : Elem Try.prog 27 1 24 := Elem.of (z := .slice none 0 0) (by kernel_rfl) rfl (by omega)

def Heads (n : Nat) (head : List Int) : Prop := ∀ i, i < head.length → 0 ≤ head[i]?.getD 0 ∧ head[i]?.getD 0 < (n : Int)
theorem Heads.small {n : Nat} {head : List Int} (h : Heads n head) (hn : n ≤ 6) (hl : head.length ≤ n) : Small head := ⟨by omega, fun i hi => by have := h i hi; omega⟩
theorem Heads.snoc {n : Nat} {head : List Int} (h : Heads n head) {c : Nat} (hc : c < n) : Heads n (head ++ [(c : Int)]) := fun i hi => by
  by_cases e : i < head.length
  · rw [List.getElem?_append_left e]; exact h i e
  · have : i = head.length := by simp at hi; omega
    subst this
    rw [List.getElem?_append_right (Nat.le_refl _), Nat.sub_self]
    simp only [List.getElem?_cons_zero, Option.getD_some]
    omega
/-- What a call of queensFrom comes to. -/
def Queens (B : Nat) (L : List (List Int)) (w : World) (e : Ending) (w' : World) : Prop := ∃ v vs, e = .returned v ∧ w'.ownsRow w.heap.size 27 1 v (List.length vs) vs ∧ Reads w' B vs L ∧ Below w.heap.size w w'
set_option maxHeartbeats 2000000 in
set_option maxRecDepth 100000 in
theorem specQueensFrom_c (n : Nat) (h1 : 1 ≤ n) (h6 : n ≤ 6) : ∀ (m : Nat) (head : List Int), head.length + m = n → Heads n head → ∀ (B : Nat) (A : Option Addr) (cc : Nat) (w : World), Row w A (ints head) → From B A → B ≤ w.heap.size → Room head.length cc →
    Calls Try.prog 32 #[.int .i64 (n : Int), .slice A head.length cc] w (Queens B (queensP n m head) w) := by
  intro m
  induction m with
  | zero =>
    intro head hlen hh B A cc w hr hf hB hcap
    have heq : ((head.length : Int) == (n : Int)) = true := by rw [beq_iff_eq]; omega
    have hlit := World.ownsRow_lit (base := w.heap.size) (e := 27) (size := 1) w #[.slice A head.length cc] 1 (Nat.le_refl _) (by simp [maxLen]) rfl
    have hb := (Below.refl w.heap.size w).alloc (Nat.le_refl _) (.cells #[.slice A head.length cc] 27)
    have HR := hide (Reads.one (c := cc) (hr.below hb) hf hcap)
    have HL := hide hlit
    clear hlen hlit
    go_enter Try.func32, Try.ntmps32
    go_wp2_with fail
    go_ret
    exact ⟨_, [.slice A head.length cc], rfl, HL.out, HR.out, hb⟩
  | succ m ih =>
    intro head hlen hh B A cc w hr hf hB _
    have heq : ((head.length : Int) == (n : Int)) = false := by rw [beq_eq_false_iff_ne]; omega
    have HA := hide (fun (c : Nat) (hc : c < n) (w5 : World) (h5 : Row w5 A (ints head)) => specApart_c A cc head (c : Int) w5 h5 (hh.small h6 (by omega)) (by omega) (by omega))
    have HI := hide (fun (c : Nat) (hc : c < n) (B' : Nat) (A' : Option Addr) (c' : Nat) (w5 : World) (h5 : Row w5 A' (ints (head ++ [(c : Int)]))) (f5 : From B' A') (b5 : B' ≤ w5.heap.size) (rm : Room (head.length + 1) c') => show Calls Try.prog 32 #[.int .i64 (n : Int), .slice A' (head.length + 1) c'] w5 (Queens B' (queensP n m (head ++ [(c : Int)])) w5) by
      have := ih (head ++ [(c : Int)]) (by simp; omega) (hh.snoc hc) B' A' c' w5 h5 f5 b5 (by rw [List.length_append]; exact rm)
      rwa [List.length_append] at this)
    have hrow := hide (fun (c : Nat) (x : List Int) (hx : x ∈ queensP n m (head ++ [(c : Int)])) => show 1 ≤ x.length by
      have := queens_rows n m _ x hx
      simp at this
      omega)
    have hrowT := hide (fun (cn : Nat) (x : List Int) (hx : x ∈ queensTo n m head cn) => show 1 ≤ x.length by
      simp only [queensTo, List.mem_flatMap, List.mem_range] at hx
      obtain ⟨c, _, hx⟩ := hx
      split at hx
      · exact hrow.out c x hx
      · simp at hx)
    have hcount := hide (fun (c : Nat) => show (queensP n m (head ++ [(c : Int)])).length ≤ 6 ^ 6 from Nat.le_trans (queens_len n m _) (Nat.le_trans (Nat.pow_le_pow_left h6 m) (Nat.pow_le_pow_right (by omega) (by omega))))
    have hcountT := hide (fun (cn : Nat) (hcn : cn ≤ n) => show (queensTo n m head cn).length ≤ 6 * 6 ^ 6 by
      have := flat_len (fun (c : Nat) => if apartP head (c : Int) then queensP n m (head ++ [(c : Int)]) else []) (6 ^ 6) cn (fun c => by
        split
        · exact hcount.out c
        · simp)
      exact Nat.le_trans this (Nat.mul_le_mul_right _ (by omega)))
    have hsucc := hide (fun cn => queensTo_succ n m head cn)
    have hall := hide (queensTo_all n m head)
    have hz0 : Hid (queensTo n m head 0 = []) := by show _ = _; simp [queensTo]
    have hl6 : head.length ≤ 6 := by omega
    clear ih hlen
    go_enter Try.func32, Try.ntmps32
    go_wp2_with fail
    go_loopw [5, 6] (fun v i wr => ∃ (cn : Nat) (vs : List Value), cn ≤ n ∧ i = .int .i64 (cn : Int) ∧ wr.ownsRow w.heap.size 27 1 v vs.length vs ∧ Hid (Reads wr B vs (queensTo n m head cn)) ∧ Hid (∀ g, v.ownBlock = some g → Off g vs) ∧ Below w.heap.size w wr) (fun _ i _ => n - (intOf i).toNat)
    case atStart => exact ⟨0, [], Nat.zero_le _, rfl, World.ownsRow_made w #[] 0 (Nat.le_refl _) (by simp [maxLen]) rfl, by rw [hz0.out]; exact Reads.nil _ _, fun g _ i a n c e => by simp at e, (Below.refl _ _).alloc (Nat.le_refl _) _⟩
    case round =>
      obtain ⟨cn, vs, hcn, rfl, hown, hrd, hoff, hb⟩ := hrel
      obtain ⟨wo, rfl⟩ : ∃ wo : World, wo = wr := ⟨_, rfl⟩
      have z := hb.size
      by_cases hlt : cn < n
      · have hs := hide (hsucc.out cn)
        have HAc := hide (HA.out cn hlt wo (hr.below hb))
        have hvl : vs.length ≤ 6 * 6 ^ 6 := by rw [hrd.out.1]; exact hcountT.out cn hcn
        cases hap : apartP head (cn : Int) with
        | false =>
          rw [hap] at hs HAc
          have hs2 : Hid (queensTo n m head (cn + 1) = queensTo n m head cn) := by show _ = _; rw [hs.out]; simp
          clear hap hs
          obtain ⟨A0, c0, rfl, _⟩ := own_row hown
          go_wp2_with fail
          refine HAc.out.mono ?_
          rintro e w1 ⟨rfl, rfl⟩
          go_wp2_with fail
          exact ⟨⟨cn + 1, vs, hlt, rfl, hown, by rw [hs2.out]; exact hrd.out, hoff.out, hb⟩, by simp [intOf]; omega⟩
        | true =>
          rw [hap] at hs HAc
          have hs2 : Hid (queensTo n m head (cn + 1) = queensTo n m head cn ++ queensP n m (head ++ [(cn : Int)])) := by show _ = _; rw [hs.out]; simp
          clear hap hs
          have oe := World.ownsRow_made (base := wo.heap.size) (e := 3) (size := 1) wo #[] 0 (Nat.le_refl _) (by simp [maxLen]) rfl
          have hbA := (Below.refl wo.heap.size wo).alloc (Nat.le_refl _) (.cells #[] 3)
          have hrA := (hr.below hb).below hbA
          obtain ⟨A0, c0, rfl, _⟩ := own_row hown
          go_wp2_with fail
          refine HAc.out.mono ?_
          rintro e w1 ⟨rfl, rfl⟩
          go_wp2_with (first
            | (at_builtin; refine put_own rfl (.tmp 24) (.tmp 25) rfl Try.underlying27 elem_int' rfl oe rfl (m := head.length) (news := ints head) (by simp) hrA (one_ints _) (by omega) (by omega) hbA.size ?_
               intro v2 w2 own2 hg2 ho2
               have b2 := below_grown hbA hbA.size oe (Nat.le_refl _) hg2
               have own2 : w2.ownsRow wo.heap.size 3 1 v2 head.length (ints head) := by simpa using own2
               have own2a := own2.alloc (.cells #[.int .i64 (cn : Int)] 3)
               have b2a := b2.alloc b2.size (.cells #[.int .i64 (cn : Int)] 3))
            | (at_builtin; refine put_own rfl (.tmp 26) (.tmp 28) rfl Try.underlying27 elem_int' rfl own2a rfl (m := 1) (news := [.int .i64 (cn : Int)]) rfl (row_new _ _ _ rfl) (by simp [Value.oneCell']) (by omega) (by omega) b2a.size ?_
               intro v3 w3 own3 hg3 ho3
               have b3 := below_grown b2a b2a.size own2a (Nat.le_refl _) hg3
               have own3 : w3.ownsRow wo.heap.size 3 1 v3 (head.length + 1) (ints (head ++ [(cn : Int)])) := by simpa [ints] using own3
               obtain ⟨A3, c3, rfl, n3, m3, r3, f3⟩ := own_row own3
               have f3' : From wo.heap.size A3 := fun ad e => by obtain ⟨g, rfl, hg, _⟩ := f3 ad e; exact hg))
          refine (HI.out cn hlt wo.heap.size A3 c3 w3 r3 f3' b3.size ⟨n3, m3⟩).mono ?_
          rintro e w4 ⟨v4, vs4, rfl, own4, rd4, b4⟩
          obtain ⟨A4, c4, rfl, _⟩ := own_row own4
          have b34 := below_then b3 b3.size b4
          have bw4 := below_then hb z b34
          have hown4 := own_below hown b34
          have rd0 := hide (hrd.out.below b34)
          have RD4 := hide rd4
          have hvl4 : vs4.length ≤ 6 ^ 6 := by rw [rd4.1]; exact hcount.out cn
          have r4 := own_reads own4
          clear rd4 own3 r3 oe hrA b4
          go_wp2_with ((at_builtin; refine put_own rfl (.tmp 22) (.tmp 30) rfl Try.underlying24 elem_rows rfl hown4 rfl (m := vs4.length) (news := vs4) (by simp) r4 RD4.out.one_cell (by omega) (by omega) bw4.size ?_; intro v5 w5 own5 hg5 ho5))
          have own5 : w5.ownsRow w.heap.size 27 1 v5 (vs ++ vs4).length (vs ++ vs4) := by rw [List.length_append]; exact own5
          have hoff4 : ∀ g, (Value.slice A0 vs.length c0).ownBlock = some g → Off g vs4 := fun g e => RD4.out.off_low (by have := (hown.lt g e).2; exact this)
          refine ⟨⟨cn + 1, vs ++ vs4, hlt, rfl, own5, ?_, ?_, below_grown bw4 bw4.size hown4 (Nat.le_refl _) hg5⟩, by simp [intOf]; omega⟩
          · rw [hs2.out]
            exact (rd0.out.grown hg5 (fun g e => hoff.out g e)).append ((RD4.out.mono (by omega)).grown hg5 (fun g e => hoff4 g e))
          · intro g e
            rcases ho5 with h | h
            · rw [h] at e
              exact (hoff.out g e).append (hoff4 g e)
            · rw [h] at e
              injection e with e
              exact (rd0.out.off_new (hrowT.out cn) (by omega)).append (RD4.out.off_new (hrow.out cn) (by omega))
      · have hcnn : Hid (cn = n) := hide (by omega)
        go_wp2_with fail
        go_ret
        exact ⟨_, vs, rfl, hown, by have h := hrd.out; rw [hcnn.out] at h; rw [← hall.out]; exact h, hb⟩

def queensOfP (n : Int) : List (List Int) := if 1 ≤ n ∧ n ≤ 6 then queensP n.toNat n.toNat [] else []
theorem specQueensOf_c (n : Int) (w : World) : Calls Try.prog 10 #[.int .i64 n] w (Queens w.heap.size (queensOfP n) w) := by
  by_cases h : 1 ≤ n ∧ n ≤ 6
  · have HR := hide (fun w5 => inRange_yes n 1 6 w5 h.1 h.2)
    have HL : Hid (queensOfP n = queensP n.toNat n.toNat []) := by show _ = _; unfold queensOfP; rw [if_pos h]
    obtain ⟨k, rfl⟩ := Int.eq_ofNat_of_zero_le (show 0 ≤ n by omega)
    have HQ := hide (fun (A : Option Addr) (c : Nat) (w5 : World) (f5 : From w.heap.size A) (b5 : w.heap.size ≤ w5.heap.size) (rm : Room 0 c) => specQueensFrom_c k (by omega) (by omega) k [] (by simp) (fun i hi => absurd hi (by simp)) w.heap.size A c w5 (Row.empty _ _) f5 b5 rm)
    rw [HL.out]
    go_enter Try.func10, Try.ntmps10
    go_wp2_with fail
    refine (HR.out _).mono ?_
    rintro e w1 ⟨rfl, rfl⟩
    go_wp2_with fail
    refine (HQ.out (some ⟨w.heap.size, 0, none⟩) 0 _ (fun ad e => by injection e with e; subst e; exact Nat.le_refl _) (by simp) ⟨Nat.le_refl _, by simp⟩).mono ?_
    rintro e w2 ⟨v, vs, rfl, own, rd, b2⟩
    go_wp2_with fail
    go_ret
    exact ⟨v, vs, rfl, own_mono own (by simp), rd, below_then ((Below.refl w.heap.size w).alloc (Nat.le_refl _) (.cells #[] 3)) (by simp) b2⟩
  · have HR := hide (fun w5 => inRange_no n 1 6 w5 h)
    have HL : Hid (queensOfP n = []) := by show _ = _; unfold queensOfP; rw [if_neg h]
    rw [HL.out]
    clear h
    go_enter Try.func10, Try.ntmps10
    go_wp2_with fail
    refine (HR.out _).mono ?_
    rintro e w1 ⟨rfl, rfl⟩
    go_wp2_with fail
    go_ret
    exact ⟨_, [], rfl, ⟨rfl, .inl ⟨rfl, rfl⟩⟩, Reads.nil _ _, Below.refl _ _⟩
end Go.Proofs.Ytlccohoblplddad
