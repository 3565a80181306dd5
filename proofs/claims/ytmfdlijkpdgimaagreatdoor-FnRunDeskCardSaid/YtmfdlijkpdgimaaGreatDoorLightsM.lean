/-
  LightP, LightA, LightF, LightQ, LightB, LightC in one text.
-/
import Derived.Test.YtmfdlijkpdgimaaGreatDoorGuardM
import Derived.Test.YtmfdlijkpdgimaaGreatDoorBitM
import Derived.StillTailTactics
/-
  Lights purely: presses, the program's rows and the model's elimination, quiet sets, fewest presses, chases; what the document says of them, for every board and all lights, by the kernel.
-/
namespace Go.Proofs.YtmfdlijkpdgimaaGreatDoor
open Go.RowKit
set_option linter.unusedVariables false

/-- For each cell what a press of it turns. -/
def litL (w h : Nat) : List Nat := (List.range (w * h)).map fun p => setFrom (w : Int) (h : Int) false straight p + 2 ^ p
/-- Lights x behind the presses of the first k cells of a set. -/
def pressTo (L : List Nat) (x s : Nat) : Nat → Nat
  | 0 => x
  | k + 1 => if bitN s k = 1 then pressTo L x s k ^^^ (L[k]?.getD 0) else pressTo L x s k
abbrev Row2 := Nat × Nat
def plus2 (a b : Row2) : Row2 := (a.1 ^^^ b.1, a.2 ^^^ b.2)
def lessTo (M : List Row2) (r : Row2) : Nat → Row2
  | 0 => r
  | k + 1 => if (lessTo M r k).2 &&& lowS (M[k]?.getD (0, 0)).2 = 0 then lessTo M r k else plus2 (lessTo M r k) (M[k]?.getD (0, 0))
def lessP (M : List Row2) (r : Row2) : Row2 := lessTo M r M.length
def rowsP (L : List Nat) : List Row2 := (List.range L.length).map fun k => (2 ^ k, L[k]?.getD 0)
def leadTo (R : List Row2) : Nat → List Row2 × List Nat
  | 0 => ([], [])
  | k + 1 => if (lessP (leadTo R k).1 (R[k]?.getD (0, 0))).2 = 0 then ((leadTo R k).1, (leadTo R k).2 ++ [(lessP (leadTo R k).1 (R[k]?.getD (0, 0))).1])
      else ((leadTo R k).1 ++ [lessP (leadTo R k).1 (R[k]?.getD (0, 0))], (leadTo R k).2)
/-- All sums of a set and some others. -/
def dblTo (Q : List Nat) (S : List Nat) : Nat → List Nat
  | 0 => S
  | k + 1 => dblTo Q S k ++ (dblTo Q S k).map fun s => s ^^^ (Q[k]?.getD 0)
def minTo (b : Nat) (S : List Nat) : Nat → Nat
  | 0 => b
  | k + 1 => min (minTo b S k) (pcN 12 (S[k]?.getD 0))
def fewI (n : Nat) (M : List Row2) (Q : List Nat) (x : Nat) : Option Nat :=
  if (lessP M (0, x)).2 = 0 then some (minTo n (dblTo Q [(lessP M (0, x)).1] Q.length) (dblTo Q [(lessP M (0, x)).1] Q.length).length) else none
/-- A chase: what is pressed, and the lights that are left, behind the first k cells. -/
def chaseTo (L : List Nat) (w x : Nat) : Nat → Row2
  | 0 => (0, x)
  | k + 1 => if w ≤ k ∧ bitN (chaseTo L w x k).2 (k - w) = 1 then ((chaseTo L w x k).1 + 2 ^ k, (chaseTo L w x k).2 ^^^ (L[k]?.getD 0)) else chaseTo L w x k

/-! The model's elimination, with any right sides. -/
def pivPL (rows : List Nat) (c : Nat) : Nat → Nat → Nat
  | 0, p => p
  | f + 1, p => if bitN (rows[p]?.getD 0) c = 0 then pivPL rows c f (p + 1) else p
def swapG {β : Type} (d : β) (l : List β) (p q : Nat) : List β := (l.set p (l[q]?.getD d)).set q (l[p]?.getD d)
def clrR (rows : List Nat) (a c : Nat) : Nat → List Nat
  | 0 => rows
  | i + 1 => if i ≠ a ∧ bitN ((clrR rows a c i)[i]?.getD 0) c = 1 then (clrR rows a c i).set i (((clrR rows a c i)[i]?.getD 0) ^^^ ((clrR rows a c i)[a]?.getD 0)) else clrR rows a c i
def clrG {β : Type} (add : β → β → β) (d : β) (rows : List Nat) (right : List β) (a c : Nat) : Nat → List β
  | 0 => right
  | i + 1 => if i ≠ a ∧ bitN ((clrR rows a c i)[i]?.getD 0) c = 1 then (clrG add d rows right a c i).set i (add ((clrG add d rows right a c i)[i]?.getD d) ((clrG add d rows right a c i)[a]?.getD d)) else clrG add d rows right a c i
structure Elim (β : Type) where
  rows : List Nat
  right : List β
  lead : List Nat
def colGL {β : Type} (add : β → β → β) (d : β) (n : Nat) (S : Elim β) (c : Nat) : Elim β :=
  if pivPL S.rows c (n - S.lead.length) S.lead.length = n then S else
    ⟨clrR (swapG 0 S.rows (pivPL S.rows c (n - S.lead.length) S.lead.length) S.lead.length) S.lead.length c n,
     clrG add d (swapG 0 S.rows (pivPL S.rows c (n - S.lead.length) S.lead.length) S.lead.length) (swapG d S.right (pivPL S.rows c (n - S.lead.length) S.lead.length) S.lead.length) S.lead.length c n,
     S.lead ++ [c]⟩
def elimTo {β : Type} (add : β → β → β) (d : β) (n : Nat) (S : Elim β) : Nat → Elim β
  | 0 => S
  | c + 1 => colGL add d n (elimTo add d n S c) c

section
variable {β γ : Type} {add : β → β → β} {d : β} {add' : γ → γ → γ} {d' : γ} {f : β → γ}
theorem map_at (hd : f d = d') (l : List β) (i : Nat) : (l.map f)[i]?.getD d' = f (l[i]?.getD d) := by
  rw [List.getElem?_map]
  cases l[i]? with
  | none => exact hd.symm
  | some x => rfl
theorem swap_map (hd : f d = d') (l : List β) (p q : Nat) : swapG d' (l.map f) p q = (swapG d l p q).map f := by
  unfold swapG
  rw [map_at hd, map_at hd, ← List.map_set, ← List.map_set]
theorem clr_map (hf : ∀ a b, f (add a b) = add' (f a) (f b)) (hd : f d = d') (rows : List Nat) (right : List β) (a c : Nat) : ∀ i, clrG add' d' rows (right.map f) a c i = (clrG add d rows right a c i).map f
  | 0 => rfl
  | i + 1 => by
    have ih := clr_map hf hd rows right a c i
    unfold clrG
    rw [ih]
    split
    · rw [map_at hd, map_at hd, ← hf, ← List.map_set]
    · rfl
theorem elim_map (hf : ∀ a b, f (add a b) = add' (f a) (f b)) (hd : f d = d') (n : Nat) (R : List Nat) (G : List β) (ld : List Nat) : ∀ k, elimTo add' d' n ⟨R, G.map f, ld⟩ k = ⟨(elimTo add d n ⟨R, G, ld⟩ k).rows, (elimTo add d n ⟨R, G, ld⟩ k).right.map f, (elimTo add d n ⟨R, G, ld⟩ k).lead⟩
  | 0 => rfl
  | k + 1 => by
    have ih := elim_map hf hd n R G ld k
    show colGL add' d' n (elimTo add' d' n ⟨R, G.map f, ld⟩ k) k = _
    rw [ih]
    generalize hS : elimTo add d n ⟨R, G, ld⟩ k = S
    show _ = (⟨(colGL add d n (elimTo add d n ⟨R, G, ld⟩ k) k).rows, (colGL add d n (elimTo add d n ⟨R, G, ld⟩ k) k).right.map f, (colGL add d n (elimTo add d n ⟨R, G, ld⟩ k) k).lead⟩ : Elim γ)
    rw [hS]
    unfold colGL
    simp only
    split
    · rfl
    · simp only
      rw [swap_map hd, clr_map hf hd]
end

/-- Whether a set is odd in number (below 2 ^ 16). -/
def parN (x : Nat) : Nat :=
  let y := x ^^^ (x >>> 8)
  let y := y ^^^ (y >>> 4)
  let y := y ^^^ (y >>> 2)
  (y ^^^ (y >>> 1)) % 2
theorem par_xor (a b : Nat) : parN (a ^^^ b) = (parN a + parN b) % 2 := by
  unfold parN
  simp only [Nat.shiftRight_xor_distrib]
  rw [← mod2_xor]
  congr 1
  have e1 : ∀ k, (a ^^^ b) ^^^ (a >>> k ^^^ b >>> k) = (a ^^^ a >>> k) ^^^ (b ^^^ b >>> k) := fun k => xor_swap ..
  ac_rfl
theorem par_zero : parN 0 = 0 := rfl
theorem par_two (x : Nat) : parN x < 2 := Nat.mod_lt _ (by omega)
/-- The right side of a row: whether the lights of a mask are odd in number. -/
def sideN (x m : Nat) : Nat := parN (m &&& x)
theorem side_xor (x a b : Nat) : sideN x (a ^^^ b) = (sideN x a + sideN x b) % 2 := by
  unfold sideN
  rw [Nat.and_xor_distrib_right, par_xor]
def masksL (n : Nat) : List Nat := (List.range n).map fun k => 2 ^ k
def startM (L : List Nat) : Elim Nat := ⟨L, masksL L.length, []⟩
/-- The model's elimination for lights x. -/
def startX (L : List Nat) (x : Nat) : Elim Nat := ⟨L, (List.range L.length).map fun k => bitN x k, []⟩
def solvedX (L : List Nat) (x : Nat) : Elim Nat := elimTo (fun a b => (a + b) % 2) 0 L.length (startX L x) L.length
def solvedM (L : List Nat) : Elim Nat := elimTo (fun a b => a ^^^ b) 0 L.length (startM L) L.length

/-- The sum of what is to be pressed. -/
def sumToL (right lead : List Nat) : Nat → Nat
  | 0 => 0
  | i + 1 => sumToL right lead i + (right[i]?.getD 0) * 2 ^ (lead[i]?.getD 0)
/-- The sum of a column's bits at the leads, and its own cell. -/
def colTo (rows lead : List Nat) (c : Nat) : Nat → Nat
  | 0 => 2 ^ c
  | i + 1 => colTo rows lead c i + bitN (rows[i]?.getD 0) c * 2 ^ (lead[i]?.getD 0)
def quietTo (rows lead : List Nat) : Nat → List Nat
  | 0 => []
  | c + 1 => if lead.contains c then quietTo rows lead c else quietTo rows lead c ++ [colTo rows lead c lead.length]
def goodTo (right : List Nat) (a : Nat) : Nat → Bool
  | 0 => true
  | k + 1 => goodTo right a k && (right[a + k]?.getD 0 != 1)
def minM (n : Nat) (Q : List Nat) (s : Nat) : Nat → Nat
  | 0 => n
  | k + 1 => min (minM n Q s k) (pcN 12 (pressTo Q s k Q.length))
def fewM (L : List Nat) (S : Elim Nat) : Option Nat :=
  if goodTo S.right S.lead.length (L.length - S.lead.length) then some (minM L.length (quietTo S.rows S.lead L.length) (sumToL S.right S.lead S.lead.length) (2 ^ (quietTo S.rows S.lead L.length).length)) else none
end Go.Proofs.YtmfdlijkpdgimaaGreatDoor

/-
  Lights: powers up to 4096, bits of sets of twelve, how many; the model's sets of cells that a press turns.
-/
namespace Go.Proofs.YtmfdlijkpdgimaaGreatDoor
open Go.RowKit
set_option linter.unusedVariables false

theorem pow12 {n : Nat} (h : n ≤ 12) : 1 ≤ 2 ^ n ∧ 2 ^ n ≤ 4096 :=
  ⟨Nat.one_le_two_pow, Nat.le_trans (Nat.pow_le_pow_right (by omega) h) (by decide)⟩
theorem specPower12_c (n : Nat) (hn : n ≤ 12) (w : World) : Calls Tryz.prog 49 #[.int .i64 (n : Int)] w fun e w' => e = .returned (.int .i64 ((2 ^ n : Nat) : Int)) ∧ w = w' := by
  go_enter Tryz.func49, Tryz.ntmps49
  go_wp2_with fail
  go_loopw [0, 3] (fun a p wr => ∃ k : Nat, k ≤ n ∧ a = .int .i64 ((n - k : Nat) : Int) ∧ p = .int .i64 ((2 ^ k : Nat) : Int) ∧ w = wr) (fun a _ _ => (intOf a).toNat)
  case atStart => exact ⟨0, Nat.zero_le _, by simp, rfl, rfl⟩
  case round =>
    obtain ⟨k, hk, rfl, rfl, rfl⟩ := hrel
    by_cases hlt : k < n
    · have hb := pow12 (n := k) (by omega)
      have hpos : (0 : Int) < ((n - k : Nat) : Int) := by omega
      have hle : ((n - k : Nat) : Int) ≤ 12 := by omega
      have hp2 : Hid ((2 ^ (k + 1) : Nat) = 2 * 2 ^ k) := by show 2 ^ (k + 1) = 2 * 2 ^ k; rw [Nat.pow_succ, Nat.mul_comm]
      have hs := hide (show ((n - k : Nat) : Int) - 1 = ((n - (k + 1) : Nat) : Int) by omega)
      generalize hP : (2 ^ k : Nat) = P at *
      generalize hM : ((n - k : Nat) : Int) = M at *
      clear hP
      go_wp2_with fail
      exact ⟨⟨k + 1, hlt, by rw [hs.out], by rw [hp2.out]; push_cast; rfl, trivial⟩, by simp [intOf]; omega⟩
    · have hkk : Hid (k = n) := hide (by omega)
      have hz : ((n - k : Nat) : Int) = 0 := by omega
      rw [hz]
      go_wp2_with fail
      go_ret
      exact ⟨by rw [hkk.out]; rfl, rfl⟩

set_option maxHeartbeats 400000 in
theorem specBit12_c (x j : Nat) (hx : x ≤ 4096) (hj : j ≤ 12) (w : World) : Calls Tryz.prog 51 #[.int .i64 (x : Int), .int .i64 (j : Int)] w fun e w' => e = .returned (.int .i64 ((bitN x j : Nat) : Int)) ∧ w = w' := by
  have HP := hide (fun w5 => specPower12_c j hj w5)
  obtain ⟨p1, p2⟩ := pow12 (n := j) hj
  have hb : Hid (bitN x j = x / 2 ^ j % 2) := rfl
  have hb2 : bitN x j ≤ 1 := by unfold bitN; omega
  have hq : x / 2 ^ j ≤ x := Nat.div_le_self _ _
  have t1 : Int.tdiv (x : Int) ((2 ^ j : Nat) : Int) = ((x / 2 ^ j : Nat) : Int) := Int.tdiv_eq_ediv_of_nonneg (Int.natCast_nonneg _)
  have t2 : Int.tmod ((x / 2 ^ j : Nat) : Int) 2 = ((bitN x j : Nat) : Int) := Int.tmod_eq_emod_of_nonneg (Int.natCast_nonneg _)
  generalize bitN x j = bv at *
  generalize x / 2 ^ j = q at *
  generalize 2 ^ j = P at *
  have e0 : IntKind.i64.wrap (q : Int) = (q : Int) := IntWalk.i64_in _ (by omega)
  have e1 : IntKind.i64.wrap (bv : Int) = (bv : Int) := IntWalk.i64_in _ (by omega)
  have hP : (P : Int) ≠ 0 := by omega
  clear hb
  go_enter Tryz.func51, Tryz.ntmps51
  go_wp2_with fail
  refine (HP.out _).mono ?_
  rintro e w1 ⟨rfl, rfl⟩
  go_wp2_with fail
  go_ret
  exact ⟨rfl, rfl⟩

theorem pcN_none : ∀ f, pcN f 0 = 0
  | 0 => rfl
  | f + 1 => by simp only [pcN]; rw [Nat.zero_div, pcN_none f]
theorem pcN_most : ∀ f x, pcN f x ≤ f
  | 0, x => Nat.zero_le _
  | f + 1, x => by simp only [pcN]; have := pcN_most f (x / 2); omega
set_option maxHeartbeats 400000 in
theorem specBits12_c (s : Nat) (hs : s < 4096) (w : World) : Calls Tryz.prog 53 #[.int .i64 (s : Int)] w fun e w' => e = .returned (.int .i64 ((pcN 12 s : Nat) : Int)) ∧ w = w' := by
  have hle := pcN_most 12 s
  go_enter Tryz.func53, Tryz.ntmps53
  go_wp2_with fail
  go_loopw [0, 3] (fun a p wr => ∃ x m f : Nat, x < 2 ^ f ∧ x < 4096 ∧ m ≤ 12 ∧ a = .int .i64 (x : Int) ∧ p = .int .i64 (m : Int) ∧ Hid (m + pcN f x = pcN 12 s) ∧ w = wr) (fun a _ _ => (intOf a).toNat)
  case atStart => exact ⟨s, 0, 12, hs, hs, Nat.zero_le _, rfl, rfl, Nat.zero_add _, rfl⟩
  case round =>
    obtain ⟨x, m, f, hxf, hx, hm12, rfl, rfl, hm, rfl⟩ := hrel
    by_cases hp : 0 < x
    · obtain ⟨f, rfl⟩ : ∃ f', f = f' + 1 := ⟨f - 1, by
        rcases f with _ | f
        · simp at hxf; omega
        · rfl⟩
      have hh : Hid (pcN (f + 1) x = x % 2 + pcN f (x / 2)) := rfl
      have hxf' : x / 2 < 2 ^ f := by rw [Nat.pow_succ] at hxf; omega
      have hd : x / 2 < x := by omega
      have hr : x % 2 ≤ 1 := by omega
      have t1 : Int.tdiv (x : Int) 2 = ((x / 2 : Nat) : Int) := Int.tdiv_eq_ediv_of_nonneg (by omega)
      have t2 : Int.tmod (x : Int) 2 = ((x % 2 : Nat) : Int) := Int.tmod_eq_emod_of_nonneg (by omega)
      have hp' : (0 : Int) < (x : Int) := by omega
      generalize hQ : x / 2 = q at *
      generalize hR : x % 2 = r at *
      have HN : Hid (m + r + pcN f q = pcN 12 s) := by
        show _ = _
        have i1 := hm.out
        have i2 := hh.out
        rw [i2] at i1
        omega
      have hm12' : m + r ≤ 12 := by have := HN.out; omega
      have e1 : IntKind.i64.wrap (q : Int) = (q : Int) := IntWalk.i64_in _ (by omega)
      have e2 : IntKind.i64.wrap (r : Int) = (r : Int) := IntWalk.i64_in _ (by omega)
      have e3 : IntKind.i64.wrap ((m : Int) + (r : Int)) = ((m + r : Nat) : Int) := (IntWalk.i64_in _ (by omega)).trans (by omega)
      have hqx : (q : Int) < (x : Int) := by omega
      have HXF := hide hxf'
      clear hQ hR hle hm hh hxf hxf'
      go_wp2_with fail
      exact ⟨⟨q, m + r, f, HXF.out, by omega, hm12', rfl, rfl, HN, trivial⟩, by simp [intOf]; omega⟩
    · obtain rfl : x = 0 := by omega
      have hm' := hm.out
      rw [pcN_none] at hm'
      have HM := hide hm'
      clear hm hm' hle hxf
      go_wp2_with fail
      go_ret
      exact ⟨by rw [← HM.out]; rfl, rfl⟩

def Lit12 (bc br : Int) : Prop := Brd bc br ∧ bc * br ≤ 12
instance (bc br : Int) : Decidable (Lit12 bc br) := by unfold Lit12; infer_instance
theorem sumPow_bd12 (R : List Int) (h : ∀ i, i < R.length → 0 ≤ R[i]?.getD 0 ∧ R[i]?.getD 0 < 12) : ∀ k, k ≤ R.length → sumPow R k ≤ 2048 * k
  | 0, _ => Nat.le_refl _
  | k + 1, hk => by
    have h1 := sumPow_bd12 R h k (by omega)
    obtain ⟨h2, h3⟩ := h k (by omega)
    have h4 : 2 ^ (R[k]?.getD 0).toNat ≤ 2 ^ 11 := Nat.pow_le_pow_right (by omega) (by omega)
    rw [sumPow]
    omega

set_option maxHeartbeats 2000000 in
set_option maxRecDepth 100000 in
theorem reaches12_c (bc br : Int) (s : ByteArray) (ss : List (Int × Int)) (far : Bool) (w : World) (hk : kindL s.toList = some (ss, far)) (hS : Lit12 bc br) :
    Calls Tryz.prog 37 #[.int .i64 bc, .int .i64 br, .string s] w (Owns 3 1 (setsP bc br far ss).length (ints (natI (setsP bc br far ss))) w) := by
  obtain ⟨⟨h1, h2, h3, h4⟩, h9⟩ := hS
  obtain ⟨m1, m2⟩ := mul_bd h1 h2 h3 h4
  obtain ⟨n, hn⟩ : ∃ n : Nat, bc * br = (n : Int) := ⟨(bc * br).toNat, by omega⟩
  have hlen : (setsP bc br far ss).length = n := by simp [setsP, hn]
  have hn9 : n ≤ 12 := by omega
  have HX := hide (fun (k : Nat) (hkn : k < n) => show ∃ R : List Int, R.length ≤ 1000 ∧ sumPow R R.length = (setsP bc br far ss)[k]?.getD 0 ∧ (∀ i, i < R.length → 0 ≤ R[i]?.getD 0 ∧ R[i]?.getD 0 < 12) ∧ ∀ (O : Option Addr) (oc : Nat) (w5 : World), Calls Tryz.prog 30 #[.int .i64 bc, .int .i64 br, .string s, .int .i64 (k : Int), .slice O 0 oc] w5 (Owns 3 1 R.length (ints R) w5) by
    refine ⟨reachP bc br far [] (k : Int) ss, ?_, ?_, ?_, ?_⟩
    · have := reach_len bc br far [] (k : Int) ss
      have := (kind_ok hk).2.1
      omega
    · rw [sumPow_reach, setsP, List.getElem?_map, List.getElem?_range (by omega)]
      rfl
    · intro i hi
      have := reach_cells h1 h2 h3 h4 i hi
      omega
    · intro O oc w5
      exact specReach_c bc br k s O oc ss far [] w5 hk h1 h2 h3 h4 (by omega) (by omega) (Row.empty _ _) (by simp [maxLen]))
  rw [hlen]
  have HP := hide (fun (j : Nat) (hj : j ≤ 12) w5 => specPower12_c j hj w5)
  have e0 : IntKind.i64.wrap (bc * br) = (n : Int) := (IntWalk.i64_in _ (by omega)).trans hn
  have HN := hide hn
  clear hk hn
  have HT := hide (fun (k : Nat) (hkn : k < n) => show natI ((setsP bc br far ss).take (k + 1)) = natI ((setsP bc br far ss).take k) ++ [(((setsP bc br far ss)[k]?.getD 0 : Nat) : Int)] by
    rw [List.take_succ_eq_append_getElem (by omega), List.getElem?_eq_getElem (by omega)]
    unfold natI
    rw [List.map_append]
    rfl)
  have HTn := hide (show (setsP bc br far ss).take n = setsP bc br far ss from List.take_of_length_le (by omega))
  generalize setsP bc br far ss = L at *
  go_enter Tryz.func37, Tryz.ntmps37
  go_wp2_with fail
  go_loopw [7, 8] (fun v i wr => ∃ k : Nat, k ≤ n ∧ i = .int .i64 (k : Int) ∧ wr.ownsRow w.heap.size 3 1 v k (ints (natI (L.take k))) ∧ Below w.heap.size w wr) (fun _ i _ => n - (intOf i).toNat)
  case atStart => exact ⟨0, Nat.zero_le _, rfl, by simpa [natI, ints] using World.ownsRow_made w #[] 0 (Nat.le_refl _) (by simp [maxLen]) rfl, (Below.refl _ _).alloc (Nat.le_refl _) _⟩
  case round =>
    obtain ⟨k, hk, rfl, hown, hb⟩ := hrel
    obtain ⟨wo, rfl⟩ : ∃ wo : World, wo = wr := ⟨_, rfl⟩
    have z := hb.size
    obtain ⟨A0, c0, rfl, _⟩ := own_row hown
    by_cases hlt : k < n
    · obtain ⟨R, hRl, hRs, hRb, hRc⟩ := HX.out k hlt
      have HRB := hide (sumPow_bd12 R hRb)
      have HRb := hide hRb
      have HRs := hide hRs
      have HRc := hide hRc
      have HTk := hide (HT.out k hlt)
      clear hRb hRs hRc
      generalize L[k]?.getD 0 = x at *
      have hba := hb.alloc z (.cells #[] 3)
      have hva := hide (hown.alloc (.cells #[] 3))
      go_wp2_with fail
      refine (HRc.out _ _ _).mono ?_
      rintro e w5 ⟨v5, rfl, o5, b5⟩
      have bx := below_then hba hba.size b5
      have hvb := hide (own_below hva.out b5)
      obtain ⟨A5, c5, rfl, _⟩ := own_row o5
      have R5 := hide (own_reads o5)
      clear o5 b5
      go_wp2_with fail
      go_loopw [9, 11] (fun a i wi => ∃ j : Nat, j ≤ R.length ∧ i = .int .i64 (j : Int) ∧ a = .int .i64 ((sumPow R j : Nat) : Int) ∧ w5 = wi) (fun _ i _ => R.length - (intOf i).toNat)
      case atStart => exact ⟨0, Nat.zero_le _, rfl, rfl, rfl⟩
      case round =>
        obtain ⟨j, hj, rfl, rfl, rfl⟩ := hrel
        have hsb := HRB.out j hj
        by_cases hjl : j < R.length
        · obtain ⟨ad, rfl, hcj⟩ := R5.out.int (k := j) hjl
          obtain ⟨y0, y9⟩ := HRb.out j hjl
          obtain ⟨y, hy⟩ := Int.eq_ofNat_of_zero_le y0
          have HJ : Hid (sumPow R (j + 1) = sumPow R j + 2 ^ y) := by show sumPow R j + 2 ^ (R[j]?.getD 0).toNat = _; rw [hy]; rfl
          have hy9 : y ≤ 12 := by omega
          rw [hy] at hcj
          have HPy := hide (fun w5 => HP.out y hy9 w5)
          have hpb := pow12 hy9
          clear hy y0 y9
          generalize sumPow R j = a at *
          generalize 2 ^ y = p at *
          have e1 : IntKind.i64.wrap ((a : Int) + (p : Int)) = ((a + p : Nat) : Int) := (IntWalk.i64_in _ (by omega)).trans (by omega)
          have j0 : (0 : Int) ≤ (j : Int) := by omega
          have j1 : (j : Int) < (R.length : Int) := by omega
          go_wp2_with fail
          refine (HPy.out _).mono ?_
          rintro e w7 ⟨rfl, rfl⟩
          go_wp2_with fail
          exact ⟨⟨j + 1, hjl, by go_num, by rw [HJ.out]; push_cast; rfl, trivial⟩, by simp [intOf]; omega⟩
        · obtain rfl : j = R.length := by omega
          rw [HRs.out]
          have hvc := hide (hvb.out.alloc (.cells #[.int .i64 (x : Int)] 3))
          have hbc := bx.alloc bx.size (.cells #[.int .i64 (x : Int)] 3)
          go_wp2_with ((at_builtin; refine put_own rfl (.tmp 39) (.tmp 41) rfl Tryz.underlying35 elem_int' rfl hvc.out rfl (m := 1) (news := [.int .i64 (x : Int)]) rfl (row_new _ _ _ rfl) (by simp [Value.oneCell']) (by omega) (by omega) hbc.size ?_; intro v9 w9 own9 hg9 ho9))
          exact ⟨⟨k + 1, hlt, by go_num, by rw [HTk.out]; simpa [ints] using own9, below_grown hbc hbc.size hvc.out (Nat.le_refl _) hg9⟩, by simp [intOf]; omega⟩
    · obtain rfl : k = n := by omega
      rw [HTn.out] at hown
      go_wp2_with fail
      go_ret
      exact ⟨_, rfl, hown, hb⟩
end Go.Proofs.YtmfdlijkpdgimaaGreatDoor

/-
  Lights: the tables of the boards of at most twelve cells, and what the kernel says of them. (Written by wip/tools/genlight.py.)
-/
namespace Go.Proofs.YtmfdlijkpdgimaaGreatDoor
open Go.RowKit
set_option linter.unusedVariables false

structure DatL where
  lit : List Nat
  leads : List Row2
  quiet : List Nat
  rows : List Nat
  masks : List Nat
  lead : List Nat
def datL : Nat → Nat → DatL
  | 1, 1 => ⟨[1], [(1, 1)], [], [1], [1], [0]⟩
  | 1, 2 => ⟨[3, 3], [(1, 3)], [3], [3, 0], [1, 3], [0]⟩
  | 1, 3 => ⟨[3, 7, 6], [(1, 3), (3, 4), (7, 2)], [], [1, 2, 4], [6, 7, 3], [0, 1, 2]⟩
  | 1, 4 => ⟨[3, 7, 14, 12], [(1, 3), (3, 4), (7, 10), (11, 8)], [], [1, 2, 4, 8], [13, 12, 3, 11], [0, 1, 2, 3]⟩
  | 1, 5 => ⟨[3, 7, 14, 28, 24], [(1, 3), (3, 4), (7, 10), (11, 24)], [27], [17, 18, 4, 24, 0], [13, 12, 3, 11, 27], [0, 1, 2, 3]⟩
  | 2, 1 => ⟨[3, 3], [(1, 3)], [3], [3, 0], [1, 3], [0]⟩
  | 2, 2 => ⟨[7, 11, 13, 14], [(1, 7), (3, 12), (5, 10), (14, 8)], [], [1, 2, 4, 8], [7, 11, 13, 14], [0, 1, 2, 3]⟩
  | 2, 3 => ⟨[7, 11, 29, 46, 52, 56], [(1, 7), (3, 12), (5, 26), (14, 56)], [29, 46], [17, 34, 52, 56, 0, 0], [7, 11, 13, 14, 29, 46], [0, 1, 2, 3]⟩
  | 2, 4 => ⟨[7, 11, 29, 46, 116, 184, 208, 224], [(1, 7), (3, 12), (5, 26), (14, 56), (29, 64), (46, 128), (115, 16), (179, 32)], [], [1, 2, 4, 8, 16, 32, 64, 128], [116, 184, 205, 206, 115, 179, 29, 46], [0, 1, 2, 3, 4, 5, 6, 7]⟩
  | 2, 5 => ⟨[7, 11, 29, 46, 116, 184, 464, 736, 832, 896], [(1, 7), (3, 12), (5, 26), (14, 56), (29, 64), (46, 128), (115, 272), (179, 544), (285, 768)], [819], [513, 514, 4, 8, 528, 544, 64, 128, 768, 0], [361, 184, 464, 467, 366, 179, 29, 46, 285, 819], [0, 1, 2, 3, 4, 5, 6, 7, 8]⟩
  | 3, 1 => ⟨[3, 7, 6], [(1, 3), (3, 4), (7, 2)], [], [1, 2, 4], [6, 7, 3], [0, 1, 2]⟩
  | 3, 2 => ⟨[11, 23, 38, 25, 58, 52], [(1, 11), (3, 28), (7, 58), (14, 40)], [23, 45], [49, 18, 52, 40, 0, 0], [6, 9, 13, 14, 23, 45], [0, 1, 2, 3]⟩
  | 3, 3 => ⟨[11, 23, 38, 89, 186, 308, 200, 464, 416], [(1, 11), (3, 28), (7, 58), (14, 104), (23, 128), (45, 320), (89, 32), (186, 16), (334, 256)], [], [1, 2, 4, 8, 16, 32, 64, 128, 256], [229, 464, 397, 308, 186, 89, 355, 23, 334], [0, 1, 2, 3, 4, 5, 6, 7, 8]⟩
  | 3, 4 => ⟨[11, 23, 38, 89, 186, 308, 712, 1488, 2464, 1600, 3712, 3328], [(1, 11), (3, 28), (7, 58), (14, 104), (23, 128), (45, 320), (89, 544), (186, 1040), (334, 2816), (867, 3072), (1908, 512), (3417, 2048)], [], [1, 2, 4, 8, 16, 32, 64, 128, 256, 512, 1024, 2048], [2475, 1479, 750, 3181, 3712, 1837, 2894, 23, 2915, 1908, 3642, 3417], [0, 1, 2, 3, 4, 5, 6, 7, 8, 9, 10, 11]⟩
  | 4, 1 => ⟨[3, 7, 14, 12], [(1, 3), (3, 4), (7, 10), (11, 8)], [], [1, 2, 4, 8], [13, 12, 3, 11], [0, 1, 2, 3]⟩
  | 4, 2 => ⟨[19, 39, 78, 140, 49, 114, 228, 200], [(1, 19), (3, 52), (7, 122), (11, 184), (29, 224), (49, 80), (114, 128), (213, 64)], [], [1, 2, 4, 8, 16, 32, 64, 128], [78, 171, 93, 39, 228, 186, 213, 114], [0, 1, 2, 3, 4, 5, 6, 7]⟩
  | 4, 3 => ⟨[19, 39, 78, 140, 305, 626, 1252, 2248, 784, 1824, 3648, 3200], [(1, 19), (3, 52), (7, 122), (11, 184), (29, 480), (49, 848), (114, 1920), (213, 3392), (484, 3328), (698, 3072), (1931, 512), (3239, 2048)], [], [1, 2, 4, 8, 16, 32, 64, 128, 256, 512, 1024, 2048], [3667, 2951, 3358, 1964, 1493, 2248, 305, 2746, 862, 1931, 3613, 3239], [0, 1, 2, 3, 4, 5, 6, 7, 8, 9, 10, 11]⟩
  | 5, 1 => ⟨[3, 7, 14, 28, 24], [(1, 3), (3, 4), (7, 10), (11, 24)], [27], [17, 18, 4, 24, 0], [13, 12, 3, 11, 27], [0, 1, 2, 3]⟩
  | 5, 2 => ⟨[35, 71, 142, 284, 536, 97, 226, 452, 904, 784], [(1, 35), (3, 100), (7, 234), (11, 376), (27, 864), (45, 464), (122, 960), (226, 256), (421, 640)], [693], [513, 2, 516, 8, 528, 544, 64, 640, 256, 0], [217, 284, 250, 71, 87, 452, 317, 421, 226, 693], [0, 1, 2, 3, 4, 5, 6, 7, 8]⟩
  | _, _ => ⟨[], [], [], [], [], []⟩
def eqRow2 : List Row2 → List Row2 → Bool
  | [], [] => true
  | a :: l, b :: m => a.1 == b.1 && a.2 == b.2 && eqRow2 l m
  | _, _ => false
theorem eqRow2_eq : ∀ {l m : List Row2}, eqRow2 l m = true → l = m
  | [], [], _ => rfl
  | [], _ :: _, h => by simp [eqRow2] at h
  | _ :: _, [], h => by simp [eqRow2] at h
  | (a, b) :: l, (c, d) :: m, h => by
    simp only [eqRow2, Bool.and_eq_true, beq_iff_eq] at h
    obtain ⟨⟨rfl, rfl⟩, h⟩ := h
    rw [eqRow2_eq h]
def datOk (w h : Nat) : Bool :=
  (litL w h == (datL w h).lit) && eqRow2 (leadTo (rowsP (datL w h).lit) (w * h)).1 (datL w h).leads && ((leadTo (rowsP (datL w h).lit) (w * h)).2 == (datL w h).quiet) &&
  ((solvedM (datL w h).lit).rows == (datL w h).rows) && ((solvedM (datL w h).lit).right == (datL w h).masks) && ((solvedM (datL w h).lit).lead == (datL w h).lead) &&
  ((datL w h).lit.all fun x => decide (x < 2 ^ (w * h))) && ((datL w h).leads.all fun p => decide (p.1 < 2 ^ (w * h)) && decide (p.2 < 2 ^ (w * h))) && ((datL w h).quiet.all fun x => decide (x < 2 ^ (w * h))) && ((datL w h).rows.all fun x => decide (x < 2 ^ (w * h))) && ((datL w h).lead.all fun x => decide (x < w * h)) &&
  (quietTo (datL w h).rows (datL w h).lead (w * h)).all (fun x => decide (x < 2 ^ (w * h))) && ((quietTo (datL w h).rows (datL w h).lead (w * h)).length == (datL w h).quiet.length) && decide ((datL w h).quiet.length ≤ 3) && decide ((datL w h).lead.length ≤ w * h) && ((datL w h).lit.length == w * h) &&
  (List.range (w * h)).all (fun k => decide (k < w) || (bitN ((datL w h).lit[k]?.getD 0) (k - w) == 1 && ((datL w h).lit[k]?.getD 0) % 2 ^ (k - w) == 0)) &&
  ((datL w h).leads.all fun p => lowS p.2 == 2 ^ (lowS p.2).log2)
theorem dat_ok : ∀ a : Fin 5, ∀ b : Fin 5, (a.val + 1) * (b.val + 1) ≤ 12 → datOk (a.val + 1) (b.val + 1) = true := by decide +kernel

end Go.Proofs.YtmfdlijkpdgimaaGreatDoor

/-
  Presses purely: twice pressed is not pressed; what holds of all boards and lights, put together from the kernel's facts.
-/
namespace Go.Proofs.YtmfdlijkpdgimaaGreatDoor
open Go.RowKit
set_option linter.unusedVariables false

theorem press_out (L : List Nat) (x s : Nat) : ∀ k, pressTo L x s k = x ^^^ pressTo L 0 s k
  | 0 => by simp [pressTo]
  | k + 1 => by
    simp only [pressTo]
    split
    · rw [press_out L x s k, Nat.xor_assoc]
    · exact press_out L x s k
theorem bitN_xor (a b k : Nat) : bitN (a ^^^ b) k = (bitN a k + bitN b k) % 2 := by
  unfold bitN
  rw [show (a ^^^ b) / 2 ^ k = a / 2 ^ k ^^^ b / 2 ^ k by rw [← Nat.shiftRight_eq_div_pow, ← Nat.shiftRight_eq_div_pow, ← Nat.shiftRight_eq_div_pow, Nat.shiftRight_xor_distrib]]
  exact mod2_xor _ _
theorem press_add (L : List Nat) (a b : Nat) : ∀ k, pressTo L 0 (a ^^^ b) k = pressTo L 0 a k ^^^ pressTo L 0 b k
  | 0 => by simp [pressTo]
  | k + 1 => by
    have ih := press_add L a b k
    have h := bitN_xor a b k
    simp only [pressTo]
    rw [ih, h]
    rcases bitN_two a k with e | e <;> rcases bitN_two b k with e' | e' <;> rw [e, e'] <;> simp
    · rw [Nat.xor_assoc]
    · rw [Nat.xor_assoc, Nat.xor_assoc]
      congr 1
      rw [Nat.xor_comm]
    · have := xor_swap (pressTo L 0 a k) (L[k]?.getD 0) (pressTo L 0 b k) (L[k]?.getD 0)
      rw [this, Nat.xor_self, Nat.xor_zero]
theorem press_self (L : List Nat) (x s n : Nat) : pressTo L (pressTo L x s n) s n = x := by
  rw [press_out L (pressTo L x s n), press_out L x, Nat.xor_assoc, Nat.xor_self, Nat.xor_zero]
theorem press_mixed (L : List Nat) (x s n : Nat) : pressTo L (pressTo L x x n) s n = pressTo L x (x ^^^ s) n := by
  rw [press_out L (pressTo L x x n), press_out L x x, press_out L x (x ^^^ s), press_add, Nat.xor_assoc]
theorem press_lt {L : List Nat} {x m : Nat} (s : Nat) (hL : ∀ k : Nat, L[k]?.getD 0 < 2 ^ m) (hx : x < 2 ^ m) : ∀ k, pressTo L x s k < 2 ^ m
  | 0 => hx
  | k + 1 => by
    simp only [pressTo]
    split
    · exact Nat.xor_lt_two_pow (press_lt s hL hx k) (hL k)
    · exact press_lt s hL hx k
theorem all_lt {L : List Nat} {m : Nat} (h : (L.all fun x => decide (x < m)) = true) (hm : 0 < m) (k : Nat) : L[k]?.getD 0 < m := by
  rcases Nat.lt_or_ge k L.length with hk | hk
  · rw [List.getElem?_eq_getElem hk, Option.getD_some]
    exact of_decide_eq_true (List.all_eq_true.1 h _ (List.getElem_mem hk))
  · rw [List.getElem?_eq_none hk, Option.getD_none]; exact hm
theorem all_lt2 {M : List Row2} {m : Nat} (h : (M.all fun p => decide (p.1 < m) && decide (p.2 < m)) = true) (hm : 0 < m) (k : Nat) : (M[k]?.getD (0, 0)).1 < m ∧ (M[k]?.getD (0, 0)).2 < m := by
  rcases Nat.lt_or_ge k M.length with hk | hk
  · rw [List.getElem?_eq_getElem hk, Option.getD_some]
    have := List.all_eq_true.1 h _ (List.getElem_mem hk)
    rw [Bool.and_eq_true, decide_eq_true_eq, decide_eq_true_eq] at this
    exact this
  · rw [List.getElem?_eq_none hk, Option.getD_none]; exact ⟨hm, hm⟩
theorem less_lt {M : List Row2} {r : Row2} {m : Nat} (hM : ∀ k : Nat, (M[k]?.getD (0, 0)).1 < 2 ^ m ∧ (M[k]?.getD (0, 0)).2 < 2 ^ m) (hr : r.1 < 2 ^ m ∧ r.2 < 2 ^ m) : ∀ k, (lessTo M r k).1 < 2 ^ m ∧ (lessTo M r k).2 < 2 ^ m
  | 0 => hr
  | k + 1 => by
    simp only [lessTo]
    split
    · exact less_lt hM hr k
    · have := less_lt hM hr k
      exact ⟨Nat.xor_lt_two_pow this.1 (hM k).1, Nat.xor_lt_two_pow this.2 (hM k).2⟩
theorem chase_lt {L : List Nat} {w x m : Nat} (hL : ∀ k : Nat, L[k]?.getD 0 < 2 ^ m) (hx : x < 2 ^ m) : ∀ k, (chaseTo L w x k).1 < 2 ^ k ∧ (chaseTo L w x k).2 < 2 ^ m
  | 0 => ⟨by simp [chaseTo], hx⟩
  | k + 1 => by
    have := chase_lt hL hx (w := w) k
    simp only [chaseTo]
    split
    · exact ⟨by rw [Nat.pow_succ]; omega, Nat.xor_lt_two_pow this.2 (hL k)⟩
    · exact ⟨by rw [Nat.pow_succ]; omega, this.2⟩

/-- What the tables hold. -/
structure DatIs (w h : Nat) : Prop where
  lit : litL w h = (datL w h).lit
  leads : leadTo (rowsP (datL w h).lit) (w * h) = ((datL w h).leads, (datL w h).quiet)
  elim : solvedM (datL w h).lit = ⟨(datL w h).rows, (datL w h).masks, (datL w h).lead⟩
  bd : ∀ k : Nat, (datL w h).lit[k]?.getD 0 < 2 ^ (w * h)
  leadbd : ∀ k : Nat, ((datL w h).leads[k]?.getD (0, 0)).1 < 2 ^ (w * h) ∧ ((datL w h).leads[k]?.getD (0, 0)).2 < 2 ^ (w * h)
  quietbd : ∀ k : Nat, (datL w h).quiet[k]?.getD 0 < 2 ^ (w * h)
  rowsbd : ∀ k : Nat, (datL w h).rows[k]?.getD 0 < 2 ^ (w * h)
  leadlt : ∀ k : Nat, (datL w h).lead[k]?.getD 0 < w * h
  quietbd' : ∀ k : Nat, (quietTo (datL w h).rows (datL w h).lead (w * h))[k]?.getD 0 < 2 ^ (w * h)
  quietlen : (quietTo (datL w h).rows (datL w h).lead (w * h)).length = (datL w h).quiet.length
  three : (datL w h).quiet.length ≤ 3
  leadlen : (datL w h).lead.length ≤ w * h
  len : (datL w h).lit.length = w * h
  up : ∀ k : Nat, k < w * h → w ≤ k → bitN ((datL w h).lit[k]?.getD 0) (k - w) = 1 ∧ ((datL w h).lit[k]?.getD 0) % 2 ^ (k - w) = 0
  low : ∀ k : Nat, k < (datL w h).leads.length → lowS ((datL w h).leads[k]?.getD (0, 0)).2 = 2 ^ (lowS ((datL w h).leads[k]?.getD (0, 0)).2).log2
theorem dat_is {w h : Nat} (hw : 1 ≤ w ∧ w ≤ 5) (hh : 1 ≤ h ∧ h ≤ 5) (h12 : w * h ≤ 12) : DatIs w h := by
  obtain ⟨a, rfl⟩ : ∃ a, w = a + 1 := ⟨w - 1, by omega⟩
  obtain ⟨b, rfl⟩ : ∃ b, h = b + 1 := ⟨h - 1, by omega⟩
  have H := dat_ok ⟨a, by omega⟩ ⟨b, by omega⟩ h12
  have hpos : 0 < (a + 1) * (b + 1) := Nat.mul_pos (by omega) (by omega)
  simp only [datOk, Bool.and_eq_true, beq_iff_eq, decide_eq_true_eq] at H
  obtain ⟨⟨⟨⟨⟨⟨⟨⟨⟨⟨⟨⟨⟨⟨⟨⟨⟨h1, h2⟩, h3⟩, h4⟩, h5⟩, h6⟩, h7⟩, h8⟩, h9⟩, h10⟩, h11⟩, h12⟩, h13⟩, h14⟩, h15⟩, h16⟩, h17⟩, h18⟩ := H
  have p := Nat.two_pow_pos ((a + 1) * (b + 1))
  refine ⟨h1, ?_, ?_, all_lt h7 p, all_lt2 h8 p, all_lt h9 p, all_lt h10 p, all_lt h11 hpos, all_lt h12 p, h13, h14, h15, h16, fun k hk hw => ?_, fun k hk => ?_⟩
  · rw [← eqRow2_eq h2, ← h3]
  · rw [← h4, ← h5, ← h6]
  · have := List.all_eq_true.1 h17 k (List.mem_range.2 hk)
    rw [decide_eq_false (by omega), Bool.false_or, Bool.and_eq_true, beq_iff_eq, beq_iff_eq] at this
    exact this
  · have := List.all_eq_true.1 h18 _ (List.getElem_mem hk)
    rw [List.getElem?_eq_getElem hk, Option.getD_some]
    simpa using this
/-! Chases. -/
theorem bit_plus {s k j : Nat} (hs : s < 2 ^ k) : bitN (s + 2 ^ k) j = if j = k then 1 else bitN s j := by
  have e : ∀ x i, bitN x i = (x.testBit i).toNat := fun x i => by
    rw [Nat.testBit_eq_decide_div_mod_eq]
    unfold bitN
    rcases Nat.mod_two_eq_zero_or_one (x / 2 ^ i) with h | h <;> rw [h] <;> rfl
  rw [e, e, Nat.add_comm]
  by_cases h : j = k
  · subst h
    rw [if_pos rfl, Nat.testBit_two_pow_add_eq, Nat.testBit_lt_two_pow hs]
    rfl
  · rw [if_neg h]
    rcases Nat.lt_or_gt_of_ne h with h' | h'
    · rw [Nat.testBit_two_pow_add_gt h']
    · rw [Nat.testBit_lt_two_pow (show s < 2 ^ j from Nat.lt_trans hs (Nat.pow_lt_pow_right (by omega) h')), Nat.testBit_lt_two_pow]
      have : 2 ^ (k + 1) ≤ 2 ^ j := Nat.pow_le_pow_right (by omega) h'
      rw [Nat.pow_succ] at this
      omega
theorem press_same {L : List Nat} {x s t : Nat} : ∀ k, (∀ j, j < k → bitN s j = bitN t j) → pressTo L x s k = pressTo L x t k
  | 0, _ => rfl
  | k + 1, h => by simp only [pressTo]; rw [press_same k (fun j hj => h j (by omega)), h k (by omega)]
theorem bit_noneL {s k : Nat} (hs : s < 2 ^ k) : bitN s k = 0 := by
  unfold bitN
  rw [Nat.div_eq_of_lt hs]
/-- The lights that are left are those behind the presses. -/
theorem chase_press (L : List Nat) (w x : Nat) : ∀ k, (chaseTo L w x k).1 < 2 ^ k ∧ pressTo L x (chaseTo L w x k).1 k = (chaseTo L w x k).2
  | 0 => ⟨by simp [chaseTo], rfl⟩
  | k + 1 => by
    obtain ⟨h1, h2⟩ := chase_press L w x k
    simp only [chaseTo]
    split
    · refine ⟨by rw [Nat.pow_succ]; omega, ?_⟩
      simp only [pressTo]
      rw [bit_plus h1, if_pos rfl, if_pos rfl, press_same (t := (chaseTo L w x k).1) k (fun j hj => by rw [bit_plus h1, if_neg (by omega)]), h2]
    · refine ⟨by rw [Nat.pow_succ]; omega, ?_⟩
      simp only [pressTo]
      rw [bit_noneL h1, if_neg (by omega), h2]
/-- No cell of the first row is pressed. -/
theorem chase_first (L : List Nat) (w x : Nat) : ∀ k, (chaseTo L w x k).1 % 2 ^ w = 0
  | 0 => rfl
  | k + 1 => by
    have ih := chase_first L w x k
    simp only [chaseTo]
    split
    · rename_i h
      obtain ⟨d, hd⟩ : ∃ d, k = w + d := ⟨k - w, by omega⟩
      simp only
      rw [hd, Nat.pow_add, Nat.add_mul_mod_self_left]
      rwa [hd] at ih
    · exact ih
/-- What is left lies in the last row. -/
theorem chase_left {L : List Nat} {w x n : Nat} (hup : ∀ k : Nat, k < n → w ≤ k → bitN (L[k]?.getD 0) (k - w) = 1 ∧ (L[k]?.getD 0) % 2 ^ (k - w) = 0) : ∀ k, k ≤ n → ∀ j, j + w < k → bitN (chaseTo L w x k).2 j = 0
  | 0, _, j, h => by omega
  | k + 1, hk, j, h => by
    have ih := chase_left hup (x := x) k (by omega)
    have hlow : ∀ (y i m : Nat), i < m → y % 2 ^ m = 0 → bitN y i = 0 := fun y i m hi h0 => by
      have h1 : y.testBit i = (y % 2 ^ m).testBit i := by rw [Nat.testBit_mod_two_pow, decide_eq_true hi, Bool.true_and]
      rw [h0, Nat.zero_testBit, Nat.testBit_eq_decide_div_mod_eq] at h1
      unfold bitN
      simp only [decide_eq_false_iff_not] at h1
      omega
    simp only [chaseTo]
    split
    · rename_i hc
      obtain ⟨u1, u2⟩ := hup k (by omega) hc.1
      simp only
      rw [bitN_xor]
      by_cases e : j = k - w
      · subst e; rw [u1, hc.2]
      · rw [ih j (by omega), hlow _ j (k - w) (by omega) u2]
    · rename_i hc
      by_cases e : j = k - w
      · subst e
        rcases bitN_two (chaseTo L w x k).2 (k - w) with h0 | h1
        · exact h0
        · exact absurd ⟨by omega, h1⟩ hc
      · exact ih j (by omega)
theorem bits_none {y m : Nat} (h : ∀ j, j < m → bitN y j = 0) : y % 2 ^ m = 0 := Nat.eq_of_testBit_eq fun i => by
  rw [Nat.testBit_mod_two_pow, Nat.zero_testBit]
  by_cases hi : i < m
  · have := h i hi
    rw [decide_eq_true hi, Bool.true_and, Nat.testBit_eq_decide_div_mod_eq]
    unfold bitN at this
    rw [this]
    rfl
  · rw [decide_eq_false hi, Bool.false_and]
theorem chase_again {L : List Nat} {w y n : Nat} (h : ∀ j, j + w < n → bitN y j = 0) : ∀ k, k ≤ n → chaseTo L w y k = (0, y)
  | 0, _ => rfl
  | k + 1, hk => by
    simp only [chaseTo]
    rw [chase_again h k (by omega)]
    split
    · rename_i hc
      have := h (k - w) (by omega)
      rw [this] at hc
      omega
    · rfl
end Go.Proofs.YtmfdlijkpdgimaaGreatDoor

/-
  Lights: the model's presses, validLights, PressAll, ChaseDown.
-/
namespace Go.Proofs.YtmfdlijkpdgimaaGreatDoor
open Go.RowKit
set_option linter.unusedVariables false

/-- A row of natural numbers of the call's own: its cells, and one of them written. -/
theorem own_natI {W : World} {base g n c : Nat} {L : List Nat} (h : W.ownsRow base 3 1 (.slice (some ⟨g, 0, none⟩) n c) n (ints (natI L))) {k : Nat} (hk : k < n) (b : Nat) :
    W.cell? ⟨g, k, none⟩ = some (.int .i64 ((L[k]?.getD 0 : Nat) : Int)) ∧ W.frozen? ⟨g, k, none⟩ = false ∧ (W.setCell ⟨g, k, none⟩ (.int .i64 (b : Int))).ownsRow base 3 1 (.slice (some ⟨g, 0, none⟩) n c) n (ints (natI (L.set k b))) ∧ W.grownBy (W.setCell ⟨g, k, none⟩ (.int .i64 (b : Int))) (some g) := by
  have hl : L.length = n := by have := h.1; simpa [natI] using this
  have hc := h.cellAt k (by omega)
  obtain ⟨o, gr⟩ := h.stored k (.int .i64 (b : Int))
  refine ⟨?_, h.frozenAt k, ?_, gr⟩
  · rw [hc]; simp [natI, List.getElem?_eq_getElem (show k < L.length by omega)]
  · rw [show (ints (natI L)).set k (.int .i64 (b : Int)) = ints (natI (L.set k b)) by simp [natI, ints, List.map_set]] at o
    exact o
theorem own_addr {w : World} {base e size n : Nat} {v : Value} {cs : List Value} (h : w.ownsRow base e size v n cs) (hn : 0 < n) : ∃ g c, v = .slice (some ⟨g, 0, none⟩) n c ∧ base ≤ g ∧ g < w.heap.size := by
  rcases h.2 with ⟨_, rfl⟩ | ⟨g, cap, cur, rfl, hb, hg, _⟩
  · omega
  · exact ⟨g, cap, rfl, hb, (Array.getElem?_eq_some_iff.1 hg).1⟩
theorem own_not {w w' : World} {base e size n : Nat} {v : Value} {xs : List Value} {r : Option Nat} (h : w.ownsRow base e size v n xs) (hg : w.grownBy w' r) (hne : v.ownBlock ≠ r) : w'.ownsRow base e size v n xs := h.kept hg (.inr hne)

theorem add0 (g k : Nat) : (⟨g, 0, none⟩ : Addr).add k = ⟨g, k, none⟩ := by unfold Addr.add; split <;> simp_all
def addTo (L : List Nat) : Nat → List Nat
  | 0 => L
  | k + 1 => (addTo L k).set k ((addTo L k)[k]?.getD 0 + 2 ^ k)
def addOk (w h : Nat) : Bool := (addTo (setsP (w : Int) (h : Int) false straight) (w * h) == litL w h) && ((setsP (w : Int) (h : Int) false straight).length == w * h) && (List.range (w * h + 1)).all fun k => (addTo (setsP (w : Int) (h : Int) false straight) k).all fun x => decide (x < 4096)
theorem add_ok : ∀ a : Fin 5, ∀ b : Fin 5, (a.val + 1) * (b.val + 1) ≤ 12 → addOk (a.val + 1) (b.val + 1) = true := by decide +kernel
structure AddIs (w h : Nat) (L : List Nat) : Prop where
  last : addTo L (w * h) = litL w h
  len : L.length = w * h
  bd : ∀ k, k ≤ w * h → ∀ i : Nat, (addTo L k)[i]?.getD 0 < 4096
theorem add_is {w h : Nat} (hw : 1 ≤ w ∧ w ≤ 5) (hh : 1 ≤ h ∧ h ≤ 5) (h12 : w * h ≤ 12) : AddIs w h (setsP (w : Int) (h : Int) false straight) := by
  obtain ⟨a, rfl⟩ : ∃ a, w = a + 1 := ⟨w - 1, by omega⟩
  obtain ⟨b, rfl⟩ : ∃ b, h = b + 1 := ⟨h - 1, by omega⟩
  have H := add_ok ⟨a, by omega⟩ ⟨b, by omega⟩ h12
  simp only [addOk, Bool.and_eq_true, beq_iff_eq] at H
  exact ⟨H.1.1, H.1.2, fun k hk i => all_lt (List.all_eq_true.1 H.2 k (List.mem_range.2 (by omega))) (by decide) i⟩
theorem step_kind : kindL (ByteArray.mk #[115, 116, 101, 112]).toList = some (straight, false) := by decide +kernel
theorem brdN {w h : Nat} (hw : 1 ≤ w ∧ w ≤ 5) (hh : 1 ≤ h ∧ h ≤ 5) : Brd (w : Int) (h : Int) := ⟨by omega, by omega, by omega, by omega⟩
theorem lit12N {w h : Nat} (hw : 1 ≤ w ∧ w ≤ 5) (hh : 1 ≤ h ∧ h ≤ 5) (h12 : w * h ≤ 12) : Lit12 (w : Int) (h : Int) := ⟨brdN hw hh, by rw [← Int.natCast_mul]; omega⟩
theorem litL_len (w h : Nat) : (litL w h).length = w * h := by simp [litL]

set_option maxHeartbeats 1000000 in
set_option maxRecDepth 100000 in
theorem specPresses_c (w h : Nat) (W : World) (hw : 1 ≤ w ∧ w ≤ 5) (hh : 1 ≤ h ∧ h ≤ 5) (h12 : w * h ≤ 12) :
    Calls Tryz.prog 70 #[.int .i64 (w : Int), .int .i64 (h : Int)] W (Owns 3 1 (w * h) (ints (natI (litL w h))) W) := by
  have hA := add_is hw hh h12
  have HR := hide (fun w5 => reaches12_c (w : Int) (h : Int) ⟨#[115, 116, 101, 112]⟩ straight false w5 step_kind (lit12N hw hh h12))
  have hn : 0 < w * h := Nat.mul_pos (by omega) (by omega)
  rw [hA.len] at HR
  have HL := hide hA.last
  have HB := hide hA.bd
  have h0 : Hid (addTo (setsP (w : Int) (h : Int) false straight) 0 = setsP (w : Int) (h : Int) false straight) := rfl
  have HS := hide (fun k => show addTo (setsP (w : Int) (h : Int) false straight) (k + 1) = (addTo (setsP (w : Int) (h : Int) false straight) k).set k ((addTo (setsP (w : Int) (h : Int) false straight) k)[k]?.getD 0 + 2 ^ k) from rfl)
  have HP := hide (fun (j : Nat) (hj : j ≤ 12) w5 => specPower12_c j hj w5)
  rw [← h0.out] at HR
  clear hA h0
  rw [← HL.out]
  generalize setsP (w : Int) (h : Int) false straight = L at *
  generalize hN : w * h = n at *
  clear hN
  go_enter Tryz.func70, Tryz.ntmps70
  go_wp2_with fail
  refine (HR.out _).mono ?_
  rintro e w1 ⟨v1, rfl, o1, b1⟩
  obtain ⟨g, c, rfl, g1, g2⟩ := own_addr o1 hn
  go_wp2_with fail
  go_loopw [6] (fun i wr => ∃ k : Nat, k ≤ n ∧ i = .int .i64 (k : Int) ∧ wr.ownsRow W.heap.size 3 1 (.slice (some ⟨g, 0, none⟩) n c) n (ints (natI (addTo L k))) ∧ Below W.heap.size W wr) (fun i _ => n - (intOf i).toNat)
  case atStart => exact ⟨0, Nat.zero_le _, rfl, o1, b1⟩
  case round =>
    obtain ⟨k, hk, rfl, own, hb⟩ := hrel
    obtain ⟨wo, rfl⟩ : ∃ wo : World, wo = wr := ⟨_, rfl⟩
    by_cases hlt : k < n
    · have hbd := HB.out k hk k
      have HSk := hide (HS.out k)
      obtain ⟨p1, p2⟩ := pow12 (n := k) (by omega)
      have HPk := hide (fun w5 => HP.out k (by omega) w5)
      have HCL := hide (fun (wd : World) (ow : wd.ownsRow W.heap.size 3 1 (.slice (some ⟨g, 0, none⟩) n c) n (ints (natI (addTo L k)))) => own_natI ow (k := k) hlt ((addTo L k)[k]?.getD 0 + 2 ^ k))
      obtain ⟨c1, c2, -, -⟩ := HCL.out wo own
      generalize (addTo L k)[k]?.getD 0 = x at *
      generalize 2 ^ k = P at *
      have e1 : IntKind.i64.wrap ((x : Int) + (P : Int)) = ((x + P : Nat) : Int) := (IntWalk.i64_in _ (by omega)).trans (by omega)
      have k0 : (0 : Int) ≤ (k : Int) := by omega
      have k1 : (k : Int) < (n : Int) := by omega
      go_wp2_with fail
      refine wp_region_still_tail 10 (by kernel_rfl) (by kernel_rfl) ?_
      simp only [List.take_succ_cons, List.take_zero, List.drop_succ_cons, List.drop_zero]
      repeat still_step
      still_call ((HPk.out _).mono (fun _ _ h => ⟨h.1, h.2.symm⟩))
      repeat still_step
      try refine wpStill_nil ?_
      have od := own.drew
      have bd := hb.drew
      change wpList _ _ _ _ _ wo.drew
      clear own hb c1 c2
      generalize wo.drew = wd at *
      obtain ⟨d1, d2, d3, d4⟩ := HCL.out wd od
      rw [← HSk.out] at d3
      have D3 := hide d3
      have D4 := hide (bd.grown d4 bd.size (fun z e => by injection e with e; omega))
      clear d3 d4 od bd HCL
      go_wp2_with fail
      exact ⟨⟨k + 1, hlt, by go_num, D3.out, D4.out⟩, by simp [intOf]; omega⟩
    · obtain rfl : k = n := by omega
      go_wp2_with fail
      go_ret
      exact ⟨_, rfl, own, hb⟩

/-- Lights, or presses, of a board. -/
def LitS (bc br s : Int) : Prop := Lit12 bc br ∧ 0 ≤ s ∧ s ≤ ((2 ^ (bc * br).toNat : Nat) : Int) - 1
instance (bc br s : Int) : Decidable (LitS bc br s) := by unfold LitS; infer_instance
set_option maxHeartbeats 1000000 in
theorem validLights_c (bc br s : Int) (W : World) : Calls Tryz.prog 32 #[.int .i64 bc, .int .i64 br, .int .i64 s] W fun e w' => e = .returned (.bool (decide (LitS bc br s))) ∧ W = w' := by
  by_cases hB : Brd bc br
  · have HB := hide hB
    have HV := hide (fun w5 => validBoard_yes bc br w5 HB.out)
    obtain ⟨h1, h2, h3, h4⟩ := hB
    obtain ⟨m1, m2⟩ := mul_bd h1 h2 h3 h4
    obtain ⟨n, hn⟩ : ∃ n : Nat, bc * br = (n : Int) := ⟨(bc * br).toNat, by omega⟩
    have e0 : IntKind.i64.wrap (bc * br) = (n : Int) := (IntWalk.i64_in _ (by omega)).trans hn
    by_cases h9 : n ≤ 12
    · have he : decide (LitS bc br s) = decide (0 ≤ s ∧ s ≤ ((2 ^ n : Nat) : Int) - 1) := by
        rw [decide_eq_decide]
        unfold LitS
        rw [hn]
        simp only [Int.toNat_natCast]
        exact ⟨fun h => h.2, fun h => ⟨⟨HB.out, by omega⟩, h⟩⟩
      rw [he]
      obtain ⟨p1, p2⟩ := pow12 h9
      have HP := hide (fun w5 => specPower12_c n h9 w5)
      have HI := hide (fun w5 => inRange_c s 0 (((2 ^ n : Nat) : Int) - 1) w5)
      have n1 : (n : Int) ≤ 12 := by omega
      clear he hn m1 m2
      generalize decide (0 ≤ s ∧ s ≤ ((2 ^ n : Nat) : Int) - 1) = b at *
      generalize 2 ^ n = P at *
      have e1 : IntKind.i64.wrap ((P : Int) - 1) = (P : Int) - 1 := IntWalk.i64_in _ (by omega)
      go_enter Tryz.func32, Tryz.ntmps32
      go_wp2_with fail
      refine (HV.out _).mono ?_
      rintro e w1 ⟨rfl, rfl⟩
      go_wp2_with fail
      refine (HP.out _).mono ?_
      rintro e w1 ⟨rfl, rfl⟩
      go_wp2_with fail
      refine (HI.out _).mono ?_
      rintro e w1 ⟨rfl, rfl⟩
      go_wp2_with fail
      go_ret
      exact ⟨by cases b <;> rfl, rfl⟩
    · have he : decide (LitS bc br s) = false := decide_eq_false (fun h => h9 (by have := h.1.2; omega))
      rw [he]
      have n1 : ¬ ((n : Int) ≤ 12) := by omega
      clear he hn m1 m2
      go_enter Tryz.func32, Tryz.ntmps32
      go_wp2_with fail
      refine (HV.out _).mono ?_
      rintro e w1 ⟨rfl, rfl⟩
      go_wp2_with fail
      go_ret
      exact ⟨rfl, rfl⟩
  · have he : decide (LitS bc br s) = false := decide_eq_false (fun h => hB h.1.1)
    have HV := hide (fun w5 => validBoard_no bc br w5 hB)
    rw [he]
    clear he hB
    go_enter Tryz.func32, Tryz.ntmps32
    go_wp2_with fail
    refine (HV.out _).mono ?_
    rintro e w1 ⟨rfl, rfl⟩
    go_wp2_with fail
    go_ret
    exact ⟨rfl, rfl⟩
theorem specXor_c (a b : Nat) (ha : a < 4096) (hb : b < 4096) (W : World) : Calls Tryz.prog 52 #[.int .i64 (a : Int), .int .i64 (b : Int)] W fun e w' => e = .returned (.int .i64 ((a ^^^ b : Nat) : Int)) ∧ W = w' := by
  have e1 := not64 a b (by omega) (by omega)
  have e2 := not64 b a (by omega) (by omega)
  have h1 := notP_lt b (show a < 2 ^ 12 by omega)
  have h2 := notP_lt a (show b < 2 ^ 12 by omega)
  have HX := hide (xor_sum 12 a b (by omega) (by omega))
  generalize notP a b = x at *
  generalize notP b a = y at *
  have e3 : IntKind.i64.wrap ((x : Int) + (y : Int)) = ((x + y : Nat) : Int) := (IntWalk.i64_in _ (by omega)).trans (by omega)
  go_enter Tryz.func52, Tryz.ntmps52
  go_wp2_with fail
  go_ret
  exact ⟨by rw [← HX.out]; push_cast; rfl, rfl⟩

/-- A board and a set as natural numbers. -/
theorem litS_nat {bc br s : Int} (h : LitS bc br s) : ∃ w h' x : Nat, bc = (w : Int) ∧ br = (h' : Int) ∧ s = (x : Int) ∧ (1 ≤ w ∧ w ≤ 5) ∧ (1 ≤ h' ∧ h' ≤ 5) ∧ w * h' ≤ 12 ∧ x < 2 ^ (w * h') := by
  obtain ⟨⟨⟨h1, h2, h3, h4⟩, h5⟩, h6, h7⟩ := h
  obtain ⟨w, rfl⟩ := Int.eq_ofNat_of_zero_le (show 0 ≤ bc by omega)
  obtain ⟨h', rfl⟩ := Int.eq_ofNat_of_zero_le (show 0 ≤ br by omega)
  obtain ⟨x, rfl⟩ := Int.eq_ofNat_of_zero_le h6
  rw [← Int.natCast_mul] at h5 h7
  rw [Int.toNat_natCast] at h7
  exact ⟨w, h', x, rfl, rfl, rfl, by omega, by omega, by omega, by omega⟩
theorem litS_of {w h x : Nat} (hw : 1 ≤ w ∧ w ≤ 5) (hh : 1 ≤ h ∧ h ≤ 5) (h12 : w * h ≤ 12) (hx : x < 2 ^ (w * h)) : LitS (w : Int) (h : Int) (x : Int) := by
  refine ⟨lit12N hw hh h12, by omega, ?_⟩
  rw [← Int.natCast_mul, Int.toNat_natCast]
  omega
theorem set12 {n x : Nat} (hn : n ≤ 12) (h : x < 2 ^ n) : x < 4096 := Nat.lt_of_lt_of_le h (Nat.pow_le_pow_right (n := 2) (by omega) hn)
theorem lit_bd {w h : Nat} (hw : 1 ≤ w ∧ w ≤ 5) (hh : 1 ≤ h ∧ h ≤ 5) (h12 : w * h ≤ 12) (k : Nat) : (litL w h)[k]?.getD 0 < 2 ^ (w * h) := by
  have := dat_is hw hh h12
  rw [this.lit]
  exact this.bd k
def pressV (bc br x s : Int) : Int := if LitS bc br x ∧ LitS bc br s then ((pressTo (litL bc.toNat br.toNat) x.toNat s.toNat (bc * br).toNat : Nat) : Int) else -1
theorem pressV_nat {w h x s : Nat} (hw : 1 ≤ w ∧ w ≤ 5) (hh : 1 ≤ h ∧ h ≤ 5) (h12 : w * h ≤ 12) (hx : x < 2 ^ (w * h)) (hs : s < 2 ^ (w * h)) : pressV w h x s = ((pressTo (litL w h) x s (w * h) : Nat) : Int) := by
  unfold pressV
  rw [if_pos ⟨litS_of hw hh h12 hx, litS_of hw hh h12 hs⟩, ← Int.natCast_mul]
  simp only [Int.toNat_natCast]

def chaseV (bc br x : Int) : Int × Int := if LitS bc br x then (((chaseTo (litL bc.toNat br.toNat) bc.toNat x.toNat (bc * br).toNat).1 : Int), ((chaseTo (litL bc.toNat br.toNat) bc.toNat x.toNat (bc * br).toNat).2 : Int)) else (-1, -1)
theorem chaseV_nat {w h x : Nat} (hw : 1 ≤ w ∧ w ≤ 5) (hh : 1 ≤ h ∧ h ≤ 5) (h12 : w * h ≤ 12) (hx : x < 2 ^ (w * h)) : chaseV w h x = (((chaseTo (litL w h) w x (w * h)).1 : Int), ((chaseTo (litL w h) w x (w * h)).2 : Int)) := by
  unfold chaseV
  rw [if_pos (litS_of hw hh h12 hx), ← Int.natCast_mul]
  simp only [Int.toNat_natCast]
theorem chase_start (L : List Nat) (w x : Nat) : ∀ k, k ≤ w → chaseTo L w x k = (0, x)
  | 0, _ => rfl
  | k + 1, hk => by
    simp only [chaseTo]
    rw [chase_start L w x k (by omega), if_neg (by omega)]

end Go.Proofs.YtmfdlijkpdgimaaGreatDoor

/-
  Lights: the model's elimination, step by step, purely.
-/
namespace Go.Proofs.YtmfdlijkpdgimaaGreatDoor
open Go.RowKit
set_option linter.unusedVariables false

def add2 (a b : Nat) : Nat := (a + b) % 2
theorem set_lt {l : List Nat} {m a : Nat} (h : ∀ i : Nat, l[i]?.getD 0 < m) (ha : a < m) (k i : Nat) : (l.set k a)[i]?.getD 0 < m := by
  by_cases e : k = i
  · subst e
    rcases Nat.lt_or_ge k l.length with hk | hk
    · rw [List.getElem?_set_self hk]; exact ha
    · rw [List.getElem?_eq_none (by simpa using hk)]
      have := h l.length
      rw [List.getElem?_eq_none (Nat.le_refl _)] at this
      exact this
  · rw [List.getElem?_set_ne e]; exact h i
theorem swap_lt {l : List Nat} {m : Nat} (h : ∀ i : Nat, l[i]?.getD 0 < m) (p q i : Nat) : (swapG 0 l p q)[i]?.getD 0 < m := set_lt (fun i => set_lt h (h q) p i) (h p) q i
theorem swap_len (l : List Nat) (p q : Nat) : (swapG 0 l p q).length = l.length := by simp [swapG]
theorem clrR_len (R : List Nat) (a c : Nat) : ∀ i, (clrR R a c i).length = R.length
  | 0 => rfl
  | i + 1 => by
    simp only [clrR]
    split
    · rw [List.length_set]; exact clrR_len R a c i
    · exact clrR_len R a c i
theorem clrR_lt {R : List Nat} {m : Nat} (h : ∀ i : Nat, R[i]?.getD 0 < 2 ^ m) (a c : Nat) : ∀ i j : Nat, (clrR R a c i)[j]?.getD 0 < 2 ^ m
  | 0, j => h j
  | i + 1, j => by
    simp only [clrR]
    split
    · exact set_lt (clrR_lt h a c i) (Nat.xor_lt_two_pow (clrR_lt h a c i i) (clrR_lt h a c i a)) i j
    · exact clrR_lt h a c i j
theorem clrG_len (R G : List Nat) (a c : Nat) : ∀ i, (clrG add2 0 R G a c i).length = G.length
  | 0 => rfl
  | i + 1 => by
    simp only [clrG]
    split
    · rw [List.length_set]; exact clrG_len R G a c i
    · exact clrG_len R G a c i
theorem clrG_lt {R G : List Nat} (h : ∀ i : Nat, G[i]?.getD 0 < 2) (a c : Nat) : ∀ i j : Nat, (clrG add2 0 R G a c i)[j]?.getD 0 < 2
  | 0, j => h j
  | i + 1, j => by
    simp only [clrG]
    split
    · exact set_lt (clrG_lt h a c i) (Nat.mod_lt _ (by omega)) i j
    · exact clrG_lt h a c i j
theorem piv_bd (rows : List Nat) (c : Nat) : ∀ f p, p ≤ pivPL rows c f p ∧ pivPL rows c f p ≤ p + f
  | 0, p => ⟨Nat.le_refl _, Nat.le_refl _⟩
  | f + 1, p => by
    simp only [pivPL]
    split
    · have := piv_bd rows c f (p + 1); omega
    · omega

structure ElimOk (n : Nat) (S : Elim Nat) : Prop where
  rl : S.rows.length = n
  gl : S.right.length = n
  rb : ∀ i : Nat, S.rows[i]?.getD 0 < 2 ^ 12
  gb : ∀ i : Nat, S.right[i]?.getD 0 < 2
  ll : S.lead.length ≤ n
  lb : ∀ i : Nat, S.lead[i]?.getD 0 ≤ 12
def colX (n : Nat) (S : Elim Nat) (c : Nat) : Elim Nat := colGL add2 0 n S c
theorem col_okL {n : Nat} {S : Elim Nat} (h : ElimOk n S) {c : Nat} (hc : c ≤ 12) : ElimOk n (colX n S c) := by
  unfold colX colGL
  split
  · exact h
  · rename_i hp
    have hb := piv_bd S.rows c (n - S.lead.length) S.lead.length
    have hl := h.ll
    refine ⟨?_, ?_, ?_, ?_, ?_, ?_⟩
    · rw [clrR_len, swap_len]; exact h.rl
    · rw [clrG_len, swap_len]; exact h.gl
    · exact clrR_lt (fun i => swap_lt h.rb _ _ i) _ _ _
    · exact clrG_lt (fun i => swap_lt h.gb _ _ i) _ _ _
    · simp only [List.length_append, List.length_cons, List.length_nil]; omega
    · intro i
      rcases Nat.lt_trichotomy i S.lead.length with hi | hi | hi
      · rw [List.getElem?_append_left hi]; exact h.lb i
      · rw [hi, List.getElem?_append_right (Nat.le_refl _), Nat.sub_self]; exact hc
      · rw [List.getElem?_eq_none (by simp; omega)]; exact Nat.zero_le _
def elimX (L : List Nat) (x : Nat) : Nat → Elim Nat
  | 0 => startX L x
  | c + 1 => colX L.length (elimX L x c) c
theorem elimX_eq (L : List Nat) (x : Nat) : ∀ c, elimX L x c = elimTo (fun a b => (a + b) % 2) 0 L.length (startX L x) c
  | 0 => rfl
  | c + 1 => by
    simp only [elimX, elimTo]
    rw [elimX_eq L x c]
    rfl
theorem elim_ok {L : List Nat} (hb : ∀ i : Nat, L[i]?.getD 0 < 2 ^ 12) (x : Nat) : ∀ c, c ≤ 12 → ElimOk L.length (elimX L x c)
  | 0, _ => ⟨rfl, by simp [elimX, startX], hb, fun i => by
      show ((List.range L.length).map fun k => bitN x k)[i]?.getD 0 < 2
      rw [List.getElem?_map]
      rcases Nat.lt_or_ge i L.length with hi | hi
      · rw [List.getElem?_range hi]; have := bitN_two x i; simp; omega
      · rw [List.getElem?_eq_none (by simpa using hi)]; simp, Nat.zero_le _, fun i => by simp [elimX, startX]⟩
  | c + 1, hc => col_okL (elim_ok hb x c (by omega)) (by omega)
/-- The two ways of a column. -/
theorem col_none {n : Nat} {S : Elim Nat} {c : Nat} (h : pivPL S.rows c (n - S.lead.length) S.lead.length = n) : colX n S c = S := if_pos h
theorem col_some {n : Nat} {S : Elim Nat} {c p : Nat} (h : pivPL S.rows c (n - S.lead.length) S.lead.length = p) (hp : p ≠ n) : colX n S c =
    ⟨clrR (swapG 0 S.rows p S.lead.length) S.lead.length c n, clrG add2 0 (swapG 0 S.rows p S.lead.length) (swapG 0 S.right p S.lead.length) S.lead.length c n, S.lead ++ [c]⟩ := by
  unfold colX colGL
  rw [h, if_neg hp]
theorem colTo_lt {rows lead : List Nat} (c : Nat) (hc : c ≤ 12) (hlb : ∀ i : Nat, lead[i]?.getD 0 ≤ 12) : ∀ i, colTo rows lead c i ≤ 4096 * (i + 1)
  | 0 => by
    have : 2 ^ c ≤ 2 ^ 12 := Nat.pow_le_pow_right (by omega) hc
    simp only [colTo]
    omega
  | i + 1 => by
    have ih := colTo_lt (rows := rows) c hc hlb i
    have h1 : 2 ^ (lead[i]?.getD 0) ≤ 2 ^ 12 := Nat.pow_le_pow_right (by omega) (hlb i)
    simp only [colTo]
    rcases bitN_two (rows[i]?.getD 0) c with e | e <;> rw [e] <;> omega
theorem sumTo_lt {right lead : List Nat} (hgb : ∀ i : Nat, right[i]?.getD 0 < 2) (hlb : ∀ i : Nat, lead[i]?.getD 0 ≤ 12) : ∀ i, sumToL right lead i ≤ 4096 * i
  | 0 => Nat.le_refl _
  | i + 1 => by
    have ih := sumTo_lt hgb hlb i
    have h1 : 2 ^ (lead[i]?.getD 0) ≤ 2 ^ 12 := Nat.pow_le_pow_right (by omega) (hlb i)
    have h2 := hgb i
    simp only [sumToL]
    have : right[i]?.getD 0 = 0 ∨ right[i]?.getD 0 = 1 := by omega
    rcases this with e | e <;> rw [e] <;> omega
theorem good_down {right : List Nat} {a : Nat} : ∀ {k j : Nat}, j ≤ k → goodTo right a k = true → goodTo right a j = true
  | 0, j, h, hg => by rw [Nat.le_zero.1 h]; rfl
  | k + 1, j, h, hg => by
    by_cases e : j = k + 1
    · rw [e]; exact hg
    · simp only [goodTo, Bool.and_eq_true] at hg
      exact good_down (by omega) hg.1
end Go.Proofs.YtmfdlijkpdgimaaGreatDoor
