
/-
  Covers of boards: the model's validHoles, holesOf, tile, TileCount.
-/
import Derived.Test.YtnikgnicjbcbmaaDoorTileK
import Derived.Test.YtnikgnicjbcbmaaDoorBitA
import Derived.Test.YtnikgnicjbcbmaaDoorSpecC
import Derived.Test.YtnikgnicjbcbmaaDoorOwnWords
namespace Go.Proofs.YtnikgnicjbcbmaaDoor
open Go.RowKit
set_option linter.unusedVariables false

abbrev boolsV (l : List Bool) : List Value := l.map Value.bool
def fnB (l : List Bool) : Nat → Bool := fun i => l[i]?.getD false
theorem Row.bool {w : World} {A : Option Addr} {l : List Bool} {k : Nat} (h : Row w A (boolsV l)) (hk : k < l.length) : ∃ ad, A = some ad ∧ w.cell? (ad.add k) = some (.bool (fnB l k)) := by
  obtain ⟨ad, e, hc⟩ := h k (by simpa using hk)
  exact ⟨ad, e, by rw [hc]; simp [fnB, List.getElem?_eq_getElem hk]⟩
theorem fnB_set {l : List Bool} {x : Nat} (hx : x < l.length) (b : Bool) (i : Nat) : fnB (l.set x b) i = if i = x then b else fnB l i := by
  unfold fnB
  by_cases e : i = x
  · subst e; rw [List.getElem?_set_self hx, if_pos rfl]; rfl
  · rw [List.getElem?_set_ne (fun h => e h.symm), if_neg e]
theorem fnB_cov {l : List Bool} {x y : Nat} (hx : x < l.length) (hy : y < l.length) : fnB ((l.set x true).set y true) = cov (fnB l) x y := funext fun i => by
  rw [fnB_set (by simpa using hy), fnB_set hx]
  unfold cov
  by_cases e1 : i = y
  · simp [e1]
  · by_cases e2 : i = x
    · simp [e2]
    · rw [if_neg e1, if_neg e2, beq_eq_false_iff_ne.2 e1, beq_eq_false_iff_ne.2 e2]; simp
theorem elem_bool : Elem Tryd.prog 4 1 1 := Elem.of (z := .bool false) (by kernel_rfl) rfl (by omega)
/-- A row of truth values of the call's own: its cells, and one of them written. -/
theorem own_bool {W : World} {base g n c : Nat} {l : List Bool} (h : W.ownsRow base 4 1 (.slice (some ⟨g, 0, none⟩) n c) n (boolsV l)) {k : Nat} (hk : k < n) (b : Bool) :
    W.cell? ⟨g, k, none⟩ = some (.bool (fnB l k)) ∧ W.frozen? ⟨g, k, none⟩ = false ∧ (W.setCell ⟨g, k, none⟩ (.bool b)).ownsRow base 4 1 (.slice (some ⟨g, 0, none⟩) n c) n (boolsV (l.set k b)) ∧ W.grownBy (W.setCell ⟨g, k, none⟩ (.bool b)) (some g) := by
  have hl : l.length = n := by have := h.1; simpa using this
  have hc := h.cellAt k (by omega)
  obtain ⟨o, gr⟩ := h.stored k (.bool b)
  refine ⟨?_, h.frozenAt k, ?_, gr⟩
  · rw [hc]; simp [fnB, List.getElem?_eq_getElem (show k < l.length by omega)]
  · rw [show (boolsV l).set k (.bool b) = boolsV (l.set k b) by simp [boolsV, List.map_set]] at o
    exact o

/-- The arguments that are valid. -/
def Holes (bc br : Int) (hs : List Int) : Prop := Brd bc br ∧ AscTo (bc * br) hs hs.length
instance (bc br : Int) (hs : List Int) : Decidable (Holes bc br hs) := by unfold Holes; infer_instance

set_option maxHeartbeats 400000 in
theorem validHoles_c (bc br : Int) (A : Option Addr) (c : Nat) (hs : List Int) (w : World) (hr : Row w A (ints hs)) (hm : hs.length ≤ maxLen) :
    Calls Tryd.prog 18 #[.int .i64 bc, .int .i64 br, .slice A hs.length c] w (Plain (.bool (decide (Holes bc br hs))) w) := by
  by_cases hB : Brd bc br
  · have HV := hide (fun w5 => validBoard_yes bc br w5 hB)
    have HC := hide (validCells_c bc br A c hs w hB.1 hB.2.1 hB.2.2.1 hB.2.2.2 hr hm)
    have he : decide (Holes bc br hs) = decide (AscTo (bc * br) hs hs.length) := by
      by_cases h : AscTo (bc * br) hs hs.length
      · rw [decide_eq_true h, decide_eq_true (show Holes bc br hs from ⟨hB, h⟩)]
      · rw [decide_eq_false h, decide_eq_false (fun h' : Holes bc br hs => h h'.2)]
    rw [he]
    generalize decide (AscTo (bc * br) hs hs.length) = x at *
    clear he hB hr
    go_enter Tryd.func18, Tryd.ntmps18
    go_wp2_with fail
    refine (HV.out _).mono ?_
    rintro e w1 ⟨rfl, rfl⟩
    go_wp2_with fail
    refine HC.out.mono ?_
    rintro e w2 ⟨rfl, b2⟩
    go_wp2_with fail
    go_ret
    exact ⟨rfl, b2⟩
  · have HV := hide (fun w5 => validBoard_no bc br w5 hB)
    rw [decide_eq_false (fun h' : Holes bc br hs => hB h'.1)]
    clear hB hr
    go_enter Tryd.func18, Tryd.ntmps18
    go_wp2_with fail
    refine (HV.out _).mono ?_
    rintro e w1 ⟨rfl, rfl⟩
    go_wp2_with fail
    go_ret
    exact ⟨rfl, Below.refl _ _⟩

def maskL (n : Nat) (hs : List Int) : List Bool := (List.range n).map (inL hs)
theorem mask_len (n : Nat) (hs : List Int) : (maskL n hs).length = n := by simp [maskL]
theorem mask_at {n i : Nat} (hs : List Int) (hi : i < n) : fnB (maskL n hs) i = inL hs i := by
  simp [fnB, maskL, List.getElem?_map, List.getElem?_range hi]
theorem mask_snoc {n : Nat} {hs : List Int} {k x : Nat} (hk : k < hs.length) (hx : hs[k]?.getD 0 = (x : Int)) : (maskL n (hs.take k)).set x true = maskL n (hs.take (k + 1)) := by
  apply List.ext_getElem
  · simp [maskL]
  · intro i h1 h2
    simp only [maskL, List.length_set, List.length_map, List.length_range] at h1
    rw [List.getElem_set]
    simp only [maskL, List.getElem_map, List.getElem_range, inL]
    rw [take_snoc _ _ hk, hx]
    by_cases e : x = i
    · subst e; simp
    · rw [if_neg e, Bool.eq_iff_iff]
      simp only [List.contains_iff_mem, List.mem_append, List.mem_singleton]
      constructor
      · exact .inl
      · rintro (h | h)
        · exact h
        · omega
theorem made_bools {w : World} {base : Nat} {v : Value} {n : Nat} {z : Value} (hz : z.cells = #[z]) (h : w.ownsRow base 4 1 v n (madeCells z.cells (n * 1)).toList) : w.ownsRow base 4 1 v n (List.replicate n z) := by
  rwa [hz, Nat.mul_one, toList_madeCells_one] at h
theorem info_of {P : Program} {e : TypeId} {z : Value} {size bytes : Nat} (h : (P.info? e).map (fun i => (i.zero, i.size, i.bytes)) = some (some z, size, bytes)) : ∃ i, P.info? e = some i ∧ i.zero = some z ∧ i.size = size ∧ i.bytes = bytes := by
  cases hi : P.info? e with
  | none => simp [hi] at h
  | some i =>
    simp only [hi, Option.map_some, Option.some.injEq, Prod.mk.injEq] at h
    exact ⟨i, rfl, h.1, h.2.1, h.2.2⟩

set_option maxHeartbeats 1000000 in
set_option maxRecDepth 100000 in
theorem holesOf_c (bc br : Int) (n : Nat) (A : Option Addr) (c : Nat) (hs : List Int) (w : World) (hH : Holes bc br hs) (hn : bc * br = (n : Int)) (hr : Row w A (ints hs)) (hm : hs.length ≤ maxLen) :
    Calls Tryd.prog 20 #[.int .i64 bc, .int .i64 br, .slice A hs.length c] w fun e w' => ∃ g, e = .returned (.slice (some ⟨g, 0, none⟩) n n) ∧ w'.ownsRow w.heap.size 4 1 (.slice (some ⟨g, 0, none⟩) n n) n (boolsV (maskL n hs)) ∧ Below w.heap.size w w' := by
  obtain ⟨⟨h1, h2, h3, h4⟩, ha⟩ := hH
  obtain ⟨m1, m2⟩ := mul_bd h1 h2 h3 h4
  have e0 : IntKind.i64.wrap (bc * br) = (n : Int) := (IntWalk.i64_in _ (by omega)).trans hn
  have HA := hide (fun k (hk : k < hs.length) => show 0 ≤ hs[k]?.getD 0 ∧ hs[k]?.getD 0 < (n : Int) from by have := (ha k hk).1; rwa [hn] at this)
  have HS := hide (fun k x (hk : k < hs.length) => mask_snoc (n := n) (hs := hs) (k := k) (x := x) hk)
  have HE := hide (show maskL n (hs.take hs.length) = maskL n hs by rw [List.take_length])
  have HML := hide (fun k => mask_len n (hs.take k))
  have H0 := hide (show boolsV (maskL n (hs.take 0)) = List.replicate n (.bool false) by
    apply List.ext_getElem
    · simp [maskL]
    · intro i i1 i2
      simp [maskL, inL])
  obtain ⟨i0, hi0, hz0, hz1, hz2⟩ := info_of (P := Tryd.prog) (e := 4) (z := .bool false) (size := 1) (bytes := 1) (by kernel_rfl)
  have HR := hide hr
  unfold maxLen at hm
  have n1 : 1 ≤ n := by omega
  have n25 : n ≤ 25 := by omega
  clear hn ha hr m1 m2
  go_enter Tryd.func20, Tryd.ntmps20
  go_wp2_with ((at_make; refine wpList_make_full _ rfl (.tmp 11) (.tmp 11) 42 rfl w.heap.size 4 i0 (.bool false) 1 Tryd.underlying42 hi0 hz0 hz1 .i64 .i64 n n n rfl rfl rfl rfl (by rw [hz2]; omega) (by simp [maxLen]; omega) (Nat.le_refl _) ?_; intro w4 own4 hg4; have own4 := made_bools rfl own4; have hb := (Below.refl w.heap.size w).grown hg4 (Nat.le_refl _) (fun k h => by cases h); clear hg4))
  go_loopw [8] (fun i wr => ∃ k : Nat, k ≤ hs.length ∧ i = .int .i64 (k : Int) ∧ wr.ownsRow w.heap.size 4 1 (.slice (some ⟨w.heap.size, 0, none⟩) n n) n (boolsV (maskL n (hs.take k))) ∧ Below w.heap.size w wr) (fun i _ => hs.length - (intOf i).toNat)
  case atStart => exact ⟨0, Nat.zero_le _, rfl, by rw [H0.out]; exact own4, hb⟩
  case round =>
    clear own4 hb
    obtain ⟨k, hk, rfl, hown, hb⟩ := hrel
    obtain ⟨wo, rfl⟩ : ∃ wo : World, wo = wr := ⟨_, rfl⟩
    have zo := hb.size
    by_cases hlt : k < hs.length
    · obtain ⟨ad, rfl, hck⟩ := (HR.out.below hb).int hlt
      obtain ⟨x0, x1⟩ := HA.out k hlt
      obtain ⟨x, hx⟩ := Int.eq_ofNat_of_zero_le x0
      have HSk := hide (HS.out k x hlt hx)
      rw [hx] at hck x1
      clear hx x0
      obtain ⟨c1, c2, c3, c4⟩ := own_bool hown (k := x) (by omega) true
      rw [HSk.out] at c3
      have C3 := hide c3
      have C4 := hide (hb.grown c4 zo (fun j e => by injection e with e; omega))
      clear c3 c4 hown
      generalize fnB (maskL n (hs.take k)) x = y at *
      have k0 : (0 : Int) ≤ (k : Int) := by omega
      have k1 : (k : Int) < (hs.length : Int) := by omega
      go_wp2_with fail
      exact ⟨⟨k + 1, hlt, rfl, C3.out, C4.out⟩, by simp [intOf]; omega⟩
    · obtain rfl : k = hs.length := by omega
      rw [HE.out] at hown
      go_wp2_with fail
      go_ret
      exact ⟨_, rfl, hown, hb⟩
end Go.Proofs.YtnikgnicjbcbmaaDoor
