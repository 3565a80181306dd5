
/-
  The program's chases: placesThat; maps whose keys are places; what is known.
-/
import Derived.Test.YtakphmcelhbaiacPChaseA
import Derived.Maps.RangeWalk
import Derived.Maps.OwnOps
import Derived.Maps.OwnSet
import Derived.Maps.Views
import Derived.DeepKeys4
import Derived.WideKeyEntry
namespace Go.Proofs.Ytakphmcelhbaiac
open Go.RowKit Go.Maps
set_option linter.unusedVariables false
set_option maxRecDepth 100000

theorem elem_place : Elem Try.prog 45 2 16 := Elem.of (z := .agg #[.int .i64 0, .int .i64 0]) (by kernel_rfl) rfl (by omega)
def flatP (l : List (Nat × Nat)) : List Value := l.flatMap fun p => [.int .i64 (p.1 : Int), .int .i64 (p.2 : Int)]
theorem flatP_len (l : List (Nat × Nat)) : (flatP l).length = l.length * 2 := by
  induction l with
  | nil => rfl
  | cons a r ih => simp [flatP] at ih ⊢; omega
theorem flatP_app (l m : List (Nat × Nat)) : flatP (l ++ m) = flatP l ++ flatP m := by simp [flatP]
theorem flatP_at : ∀ (l : List (Nat × Nat)) (k : Nat), k < l.length → (flatP l)[k * 2]? = some (.int .i64 ((l[k]?.getD (0, 0)).1 : Int)) ∧ (flatP l)[k * 2 + 1]? = some (.int .i64 ((l[k]?.getD (0, 0)).2 : Int))
  | [], k, h => absurd h (by simp)
  | a :: r, 0, _ => ⟨rfl, rfl⟩
  | a :: r, k + 1, h => by
    have := flatP_at r k (by simpa using h)
    rw [show (k + 1) * 2 = k * 2 + 2 by omega]
    simpa [flatP] using this
/-- The places of one row that are a catch, of the first k cells; and those of the first i rows. -/
def rowTo (P : Nat → Nat → Bool) (i : Nat) : Nat → List (Nat × Nat)
  | 0 => []
  | k + 1 => rowTo P i k ++ if P i k then [(i, k)] else []
def placesTo (P : Nat → Nat → Bool) (n : Nat) : Nat → List (Nat × Nat)
  | 0 => []
  | i + 1 => placesTo P n i ++ rowTo P i n
theorem rowTo_len (P : Nat → Nat → Bool) (i : Nat) : ∀ k, (rowTo P i k).length ≤ k
  | 0 => Nat.le_refl _
  | k + 1 => by
    have := rowTo_len P i k
    simp only [rowTo, List.length_append]
    split <;> simp <;> omega
theorem placesTo_len (P : Nat → Nat → Bool) (n : Nat) : ∀ i, (placesTo P n i).length ≤ i * n
  | 0 => by simp [placesTo]
  | i + 1 => by
    have := placesTo_len P n i
    have := rowTo_len P i n
    simp only [placesTo, List.length_append]
    rw [Nat.add_mul, Nat.one_mul]
    omega
theorem rowTo_mem {P : Nat → Nat → Bool} {i : Nat} {q : Nat × Nat} : ∀ {k}, q ∈ rowTo P i k ↔ q.1 = i ∧ q.2 < k ∧ P i q.2 = true
  | 0 => by simp [rowTo]
  | k + 1 => by
    simp only [rowTo, List.mem_append, rowTo_mem (k := k)]
    by_cases h : P i k = true
    · rw [if_pos h, List.mem_singleton]
      constructor
      · rintro (⟨h1, h2, h3⟩ | rfl)
        · exact ⟨h1, by omega, h3⟩
        · exact ⟨rfl, by omega, h⟩
      · rintro ⟨h1, h2, h3⟩
        by_cases e : q.2 = k
        · exact .inr (by obtain ⟨a, b⟩ := q; simp only at h1 e; rw [h1, e])
        · exact .inl ⟨h1, by omega, h3⟩
    · rw [if_neg h]
      simp only [List.not_mem_nil, or_false]
      constructor
      · rintro ⟨h1, h2, h3⟩
        exact ⟨h1, by omega, h3⟩
      · rintro ⟨h1, h2, h3⟩
        refine ⟨h1, ?_, h3⟩
        by_cases e : q.2 = k
        · rw [e] at h3; exact absurd h3 h
        · omega
theorem placesTo_mem {P : Nat → Nat → Bool} {n : Nat} {q : Nat × Nat} : ∀ {i}, q ∈ placesTo P n i ↔ q.1 < i ∧ q.2 < n ∧ P q.1 q.2 = true
  | 0 => by simp [placesTo]
  | i + 1 => by
    simp only [placesTo, List.mem_append, placesTo_mem (i := i), rowTo_mem]
    constructor
    · rintro (⟨h1, h2, h3⟩ | ⟨h1, h2, h3⟩)
      · exact ⟨by omega, h2, h3⟩
      · exact ⟨by omega, h2, by rw [h1]; exact h3⟩
    · rintro ⟨h1, h2, h3⟩
      by_cases e : q.1 = i
      · exact .inr ⟨e, h2, by rw [← e]; exact h3⟩
      · exact .inl ⟨by omega, h2, h3⟩

set_option maxHeartbeats 2000000 in
theorem placesThat_c (A : Option Addr) (c n : Nat) (P : Nat → Nat → Bool) (g4 g5 : Nat) (W : World) (hn : n ≤ 9)
    (hf : ∀ h o, h < n → o < n → ∀ w1, Below W.heap.size W w1 → Calls Try.prog 35 #[placeV h o, .pointer (some ⟨g4, 0, none⟩), .pointer (some ⟨g5, 0, none⟩)] w1 (Plain (.bool (P h o)) w1)) :
    Calls Try.prog 34 #[.slice A n c, .func (.func 35) #[] #[.pointer (some ⟨g4, 0, none⟩), .pointer (some ⟨g5, 0, none⟩)]] W (Owns 45 2 (placesTo P n n).length (flatP (placesTo P n n)) W) := by
  have HF := hide hf
  have HRS : Hid (∀ i k, rowTo P i (k + 1) = rowTo P i k ++ if P i k then [(i, k)] else []) := fun i k => rfl
  have HPS : Hid (∀ i, placesTo P n (i + 1) = placesTo P n i ++ rowTo P i n) := fun i => rfl
  have HRL := hide (rowTo_len P)
  have HPL := hide (fun i (hi : i ≤ n) => show (placesTo P n i).length ≤ 81 from Nat.le_trans (placesTo_len P n i) (Nat.mul_le_mul (show i ≤ 9 by omega) hn))
  clear hf
  have H0 : Hid (placesTo P n 0 = []) := rfl
  have HR0 : Hid (∀ i, rowTo P i 0 = []) := fun i => rfl
  generalize placesTo P n = S at *
  generalize rowTo P = R at *
  go_enter Try.func34, Try.ntmps34
  go_wp2_with fail
  go_loopw [5, 11] (fun v iv wr => ∃ i : Nat, i ≤ n ∧ iv = .int .i64 (i : Int) ∧ wr.ownsRow W.heap.size 45 2 v (S i).length (flatP (S i)) ∧ Below W.heap.size W wr) (fun _ iv _ => n - (intOf iv).toNat)
  case atStart => exact ⟨0, Nat.zero_le _, rfl, by rw [H0.out]; exact World.ownsRow_nil _ _ _ _, Below.refl _ _⟩
  case round =>
    obtain ⟨i, hi, rfl, hown, hb⟩ := hrel
    obtain ⟨wo, rfl⟩ : ∃ wo : World, wo = wr := ⟨_, rfl⟩
    obtain ⟨A0, c0, rfl, _⟩ := own_row hown
    by_cases hlt : i < n
    · have i1 : (i : Int) < (n : Int) := by omega
      have HLT := hide hlt
      have hsl := HPL.out i hi
      go_wp2_with fail
      go_loopw [5, 16] (fun v kv wr => ∃ (k : Nat) (T : List (Nat × Nat)), k ≤ n ∧ kv = .int .i64 (k : Int) ∧ Hid (S i ++ R i k = T) ∧ wr.ownsRow W.heap.size 45 2 v T.length (flatP T) ∧ Below W.heap.size W wr) (fun _ kv _ => n - (intOf kv).toNat)
      case atStart => exact ⟨0, S i, Nat.zero_le _, rfl, by show _ = _; rw [HR0.out, List.append_nil], hown, hb⟩
      case round =>
        clear hown hb
        obtain ⟨k, T, hk, rfl, hT, hown, hb⟩ := hrel
        obtain ⟨wi, rfl⟩ : ∃ wi : World, wi = wr := ⟨_, rfl⟩
        obtain ⟨A1, c1, rfl, _⟩ := own_row hown
        have hrl := HRL.out i k
        by_cases hkl : k < n
        · have k1 : (k : Int) < (n : Int) := by omega
          have HKL := hide hkl
          have hRS := hide (HRS.out i k)
          have hb2 := hb.alloc hb.size (.cells #[.int .i64 (i : Int), .int .i64 (k : Int)] 45)
          have hown2 := hown.alloc (.cells #[.int .i64 (i : Int), .int .i64 (k : Int)] 45)
          have bx := Box.new wi 45 #[.int .i64 (i : Int), .int .i64 (k : Int)]
          have HFk := hide (HF.out i k HLT.out hkl _ hb2)
          have d0 := bx.cell 0
          have d1 := bx.cell 1
          have hlb : T.length ≤ 90 := by
            have := congrArg List.length hT.out
            rw [List.length_append] at this
            omega
          clear hown hb
          cases hp : P i k with
          | false =>
            rw [hp] at HFk hRS
            clear hp
            go_wp2_with fail
            refine HFk.out.mono ?_
            rintro e w5 ⟨rfl, b5⟩
            go_wp2_with fail
            exact ⟨⟨k + 1, T, HKL.out, by go_num, by show _ = _; rw [hRS.out, show (if false = true then [(i, k)] else []) = ([] : List (Nat × Nat)) from rfl, List.append_nil, hT.out], own_below hown2 b5, below_then hb2 hb2.size b5⟩, by simp [intOf]; omega⟩
          | true =>
            rw [hp] at HFk hRS
            clear hp
            go_wp2_with fail
            refine HFk.out.mono ?_
            rintro e w5 ⟨rfl, b5⟩
            have bx5 := bx.then b5
            have e0 := bx5.cell 0
            have e1 := bx5.cell 1
            have hown5 := (own_below hown2 b5).alloc (.cells #[.int .i64 (i : Int), .int .i64 (k : Int)] 45)
            have hb5 := below_then hb2 hb2.size b5
            have hb6 := hb5.alloc hb5.size (.cells #[.int .i64 (i : Int), .int .i64 (k : Int)] 45)
            clear hown2 hb2 b5 bx d0 d1
            go_wp2_with ((at_builtin; refine put_own rfl (.tmp 25) (.tmp 27) rfl Try.underlying69 elem_place rfl hown5 rfl (m := 1) (news := [.int .i64 (i : Int), .int .i64 (k : Int)]) rfl (row_new _ _ _ (by first | rfl | simp)) (by simp [Value.oneCell']) (by omega) (by omega) hb6.size ?_; intro v9 w9 own9 hg9 ho9))
            exact ⟨⟨k + 1, T ++ [(i, k)], HKL.out, by go_num, by show _ = _; rw [hRS.out, if_pos trivial, ← List.append_assoc, hT.out], by rw [List.length_append, flatP_app]; exact own9, below_grown hb6 hb6.size hown5 (Nat.le_refl _) hg9⟩, by simp [intOf]; omega⟩
        · obtain rfl : k = n := by omega
          have HPSi := hide (HPS.out i)
          have HO := hide (show wi.ownsRow W.heap.size 45 2 (.slice A1 T.length c1) (S (i + 1)).length (flatP (S (i + 1))) by rw [HPSi.out, hT.out]; exact hown)
          clear hown
          go_wp2_with fail
          exact ⟨⟨i + 1, HLT.out, by go_num, HO.out, hb⟩, by simp [intOf]; omega⟩
    · obtain rfl : i = n := by omega
      go_wp2_with fail
      go_ret
      exact ⟨_, rfl, hown, hb⟩

/-! ### Maps whose keys are places -/
theorem laidOutM : laidOutB Try.prog = true := by kernel_rfl
theorem rowPL : (45 : TypeId) < Try.prog.types.size := of_decide_eq_true (by kernel_rfl)
theorem widePL : (match Try.prog.underlying 45 with | some (.array _ _) | some (.struct _) => true | _ => false) = true := by kernel_rfl
theorem klawP : WideMaps.KeyLaw Try.prog 45 := deep_law_laid laidOutM (m := 2) (by omega) rowPL (by kernel_rfl) widePL
theorem mlawP : Keyed Try.prog 45 := Keyed.of_law klawP
theorem mzeroP (w : World) : (zeroValue 3).run Try.prog w = .ok (.int .i64 0) w := by kernel_rfl
noncomputable def klp (h o : Nat) : Lit := (keyOf Try.prog 45 (placeV h o)).getD (.bool false)
theorem keyP_some (h o : Nat) (hh : h < 9) (ho : o < 9) : (keyOf Try.prog 45 (placeV h o)).isSome = true := by
  have key : ∀ a : Fin 9, ∀ b : Fin 9, (keyOf Try.prog 45 (placeV a.val b.val)).isSome = true := by decide +kernel
  exact key ⟨h, hh⟩ ⟨o, ho⟩
theorem keyP {h o : Nat} (hh : h < 9) (ho : o < 9) : keyOf Try.prog 45 (placeV h o) = some (klp h o) := by
  have hs := keyP_some h o hh ho
  unfold klp
  cases e : keyOf Try.prog 45 (placeV h o) with
  | some l => rfl
  | none => rw [e] at hs; cases hs
theorem klp_inj {h o a b : Nat} (hh : h < 9) (ho : o < 9) (ha : a < 9) (hb : b < 9) (e : klp h o = klp a b) : h = a ∧ o = b := by
  have h1 := keyP hh ho
  rw [e] at h1
  have h2 := mlawP.inj h1 (keyP ha hb)
  injection h2 with h2
  have h3 : (#[Value.int .i64 (h : Int), .int .i64 (o : Int)] : Array Value).toList = #[Value.int .i64 (a : Int), .int .i64 (b : Int)].toList := by rw [h2]
  simp only [List.cons.injEq, Value.int.injEq, true_and, and_true] at h3
  omega
theorem klp_key {h o : Nat} (hh : h < 9) (ho : o < 9) : WideAt.IsKeyLit (klp h o) := mlawP.key (keyP hh ho)
abbrev OwnsP (w : World) (b n : Nat) (D : DataW Unit) : Prop := w.ownsMap Try.prog 45 (plainElem Try.prog 3) b n D
/-- What the map knows of the places of a board. -/
def ViewP (D : DataW Unit) (n : Nat) (F : Nat → Nat → Option Nat) : Prop :=
  IsMap D ∧ ∀ h o, h < n → o < n → Maps.has D (klp h o) = (F h o).isSome ∧ D.atKey (klp h o) (.lit (.int .i64 0)) = .lit (.int .i64 (((F h o).getD 0 : Nat) : Int))
theorem ViewP.congr {D : DataW Unit} {n : Nat} {F G : Nat → Nat → Option Nat} (h : ViewP D n F) (he : ∀ a b, a < n → b < n → F a b = G a b) : ViewP D n G :=
  ⟨h.1, fun a b ha hb => by rw [← he a b ha hb]; exact h.2 a b ha hb⟩
theorem ViewP.empty (n : Nat) : ViewP (.map []) n (fun _ _ => none) := ⟨isMap_empty, fun a b _ _ => ⟨rfl, rfl⟩⟩
theorem ViewP.put {D : DataW Unit} {n : Nat} {F : Nat → Nat → Option Nat} (h : ViewP D n F) (hn : n ≤ 9) {x y : Nat} (hx : x < n) (hy : y < n) (v : Nat) :
    ViewP (D.put (klp x y) (.lit (.int .i64 (v : Int)))) n (fun a b => if a = x ∧ b = y then some v else F a b) := by
  refine ⟨h.1.put _ _, fun a b ha hb => ?_⟩
  simp only
  by_cases e : a = x ∧ b = y
  · obtain ⟨rfl, rfl⟩ := e
    have hk := klp_key (h := a) (o := b) (by omega) (by omega)
    rw [if_pos ⟨rfl, rfl⟩, atKey_put_same h.1 hk, has_put_same h.1 hk]
    exact ⟨rfl, rfl⟩
  · have hne : klp a b ≠ klp x y := fun h' => e (klp_inj (by omega) (by omega) (by omega) (by omega) h')
    rw [if_neg e, atKey_put_other hne, has_put_other hne]
    exact h.2 a b ha hb
set_option maxHeartbeats 1000000 in
/-- Whether a place is known. -/
theorem known_c (g3 bm nm : Nat) (D : DataW Unit) (n : Nat) (F : Nat → Nat → Option Nat) (w : World) (hn : n ≤ 9) (hc : w.cell? ⟨g3, 0, none⟩ = some (.map (some bm))) (hg : g3 < w.heap.size) (hm : OwnsP w bm nm D) (hv : ViewP D n F) (h o : Nat) (hh : h < n) (ho : o < n) :
    Calls Try.prog 32 #[placeV h o, .pointer (some ⟨g3, 0, none⟩)] w (Plain (.bool (F h o).isSome) w) := by
  have hm2 := hm.alloc (.cells #[.int .i64 (h : Int), .int .i64 (o : Int)] 45)
  have hc2 : (w.alloc (.cells #[.int .i64 (h : Int), .int .i64 (o : Int)] 45)).cell? ⟨g3, 0, none⟩ = some (.map (some bm)) := (World.cell?_alloc_lt w _ _ hg).trans hc
  have hhas := (hv.2 h o hh ho).1
  have hkey := keyP (h := h) (o := o) (by omega) (by omega)
  generalize (F h o).isSome = r at *
  clear hv hc hm
  go_enter Try.func32, Try.ntmps32
  go_wp2_with ((at_lookup; refine wpList_lookup_own_ok_int _ rfl _ _ 42 rfl 45 3 .i64 mlawP Try.underlying42 Try.underlying3 (mzeroP _) bm nm D rfl hm2 _ _ rfl hkey ?_; intro c0 hc0 hwc0; rw [hhas]; clear hc0 hwc0))
  go_ret
  exact ⟨rfl, (Below.refl _ _).alloc (Nat.le_refl _) _⟩
end Go.Proofs.Ytakphmcelhbaiac
