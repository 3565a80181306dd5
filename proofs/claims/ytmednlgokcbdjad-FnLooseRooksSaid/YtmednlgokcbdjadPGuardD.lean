
/-
  The program's guards: ValidSmall, FewestGuards, MostLoose, CountLoose, FewestFull.
-/
import Derived.Test.YtmednlgokcbdjadPGuardC
namespace Go.Proofs.Ytmednlgokcbdjad
open Go.RowKit
set_option linter.unusedVariables false

structure Tried (L : List Nat) : Prop where
  g0 : 0 < (setsOf ([false].map (testP L)) (2 ^ L.length)).length
  f0 : 0 < (setsOf ([true, false].map (testP L)) (2 ^ L.length)).length
  g : minOf (setsOf ([false].map (testP L)) (2 ^ L.length)) = fewGuards L
  f : minOf (setsOf ([true, false].map (testP L)) (2 ^ L.length)) = fewFull L
  m : maxOf (setsOf ([true].map (testP L)) (2 ^ L.length)) = mostL L
  c : (setsOf ([true].map (testP L)) (2 ^ L.length)).length = countL L
theorem tried_of {bc br : Int} {s : List UInt8} {ss : List (Int × Int)} {far : Bool} (hS : Small bc br) (hk : kindL s = some (ss, far)) : Tried (setsP bc br far ss) := by
  obtain ⟨h1, h2, h3, h4, h9⟩ := hS
  obtain ⟨a, rfl⟩ : ∃ a : Nat, bc = ((a + 1 : Nat) : Int) := ⟨(bc - 1).toNat, by omega⟩
  obtain ⟨b, rfl⟩ : ∃ b : Nat, br = ((b + 1 : Nat) : Int) := ⟨(br - 1).toNat, by omega⟩
  have h9' : (a + 1) * (b + 1) ≤ 9 := by
    have : (((a + 1) * (b + 1) : Nat) : Int) ≤ 9 := by rw [Int.natCast_mul]; exact h9
    omega
  have h := List.all_eq_true.1 (tried_all ⟨a, by omega⟩ ⟨b, by omega⟩ h9') _ (kind_six6 hk)
  unfold triedOk at h
  simp only [Bool.and_eq_true, decide_eq_true_eq, beq_iff_eq] at h
  obtain ⟨⟨⟨⟨⟨e1, e2⟩, e3⟩, e4⟩, e5⟩, e6⟩ := h
  exact ⟨e1, e2, e3, e4, e5, e6⟩
theorem sets_mem (ts : List (Nat → Bool)) (P k : Nat) (h : k < (setsOf ts P).length) : (setsOf ts P)[k]?.getD 0 < P := by
  rw [List.getElem?_eq_getElem h, Option.getD_some]
  have := (List.mem_filter.1 (List.getElem_mem h)).1
  exact List.mem_range.1 this

set_option maxHeartbeats 400000 in
set_option maxRecDepth 100000 in
theorem implValidSmall_c (bc br : Int) (s : ByteArray) (w : World) : Calls Try.prog 12 #[.int .i64 bc, .int .i64 br, .string s] w (Plain (.bool (smallK bc br s.toList).isSome) w) := by
  cases hk : smallK bc br s.toList with
  | none =>
    have H := hide (smallOf_no bc br s w hk)
    clear hk
    go_enter Try.func12, Try.ntmps12
    go_wp2_with fail
    refine H.out.mono ?_
    rintro e w1 ⟨rfl, b1⟩
    go_wp2_with fail
    go_ret
    exact ⟨rfl, b1⟩
  | some p =>
    obtain ⟨ss, far⟩ := p
    obtain ⟨hS, hkk⟩ := smallK_some hk
    have H := hide (smallOf_yes bc br s w hkk hS)
    clear hk hS hkk
    generalize setsP bc br far ss = L at *
    go_enter Try.func12, Try.ntmps12
    go_wp2_with fail
    refine H.out.mono ?_
    rintro e w1 ⟨A1, c1, rfl, o1, b1⟩
    go_wp2_with fail
    go_ret
    exact ⟨rfl, b1⟩

set_option maxHeartbeats 400000 in
set_option maxRecDepth 100000 in
theorem implFewestGuards_c (bc br : Int) (s : ByteArray) (w : World) : Calls Try.prog 16 #[.int .i64 bc, .int .i64 br, .string s] w (Plain (.int .i64 (valueOf bc br s.toList fewGuards)) w) := by
  unfold valueOf
  cases hk : smallK bc br s.toList with
  | none =>
    have H := hide (smallOf_no bc br s w hk)
    clear hk
    go_enter Try.func16, Try.ntmps16
    go_wp2_with fail
    refine H.out.mono ?_
    rintro e w1 ⟨rfl, b1⟩
    go_wp2_with fail
    go_ret
    exact ⟨rfl, b1⟩
  | some p =>
    obtain ⟨ss, far⟩ := p
    obtain ⟨hS, hkk⟩ := smallK_some hk
    have H := hide (smallOf_yes bc br s w hkk hS)
    have ht := tried_of hS hkk
    obtain ⟨h9s, hlen⟩ := sets9_of hS hkk
    clear hk hS hkk hlen
    simp only
    generalize setsP bc br far ss = L at *
    obtain ⟨p1, p2⟩ := pow9 h9s.len
    have HST := hide (fun (A T : Option Addr) (c tc : Nat) (w5 : World) (hr : Row w5 A (ints (natI L))) (hT : Row w5 T ([false].map testV)) => setsThat_c A T c tc L [false] w5 hr h9s hT (by decide))
    have hsl := sets_len ([false].map (testP L)) (2 ^ L.length)
    have HSM := hide (sets_mem ([false].map (testP L)) (2 ^ L.length))
    have HG0 := hide ht.g0
    have HG := hide ht.g
    clear h9s ht
    generalize setsOf ([false].map (testP L)) (2 ^ L.length) = S at *
    go_enter Try.func16, Try.ntmps16
    go_wp2_with fail
    refine H.out.mono ?_
    rintro e w1 ⟨A1, c1, rfl, o1, b1⟩
    have R1 := hide ((own_reads o1).alloc (.cells #[.func (.func 35) #[] #[]] 42))
    have T1 := hide (show Row (w1.alloc (.cells #[.func (.func 35) #[] #[]] 42)) (some ⟨w1.heap.size, 0, none⟩) ([false].map testV) from row_new w1 #[.func (.func 35) #[] #[]] 42 rfl)
    have b1 := b1.alloc b1.size (.cells #[.func (.func 35) #[] #[]] 42)
    clear o1
    go_wp2_with fail
    refine (HST.out _ _ _ _ _ R1.out T1.out).mono ?_
    rintro e w2 ⟨v2, rfl, o2, b2⟩
    obtain ⟨A2, c2, rfl, _⟩ := own_row o2
    have b2 := below_then b1 b1.size b2
    have R2 := hide (own_reads o2)
    clear o2 b1
    go_wp2_with fail
    refine (fewestOf_c A2 c2 S _ R2.out HG0.out (fun k hk => by have := HSM.out k hk; omega) (by omega)).mono ?_
    rintro e w3 ⟨rfl, rfl⟩
    go_wp2_with fail
    go_ret
    exact ⟨by rw [← HG.out]; rfl, b2⟩

set_option maxHeartbeats 400000 in
set_option maxRecDepth 100000 in
theorem implCountLoose_c (bc br : Int) (s : ByteArray) (w : World) : Calls Try.prog 7 #[.int .i64 bc, .int .i64 br, .string s] w (Plain (.int .i64 (valueOf bc br s.toList countL)) w) := by
  unfold valueOf
  cases hk : smallK bc br s.toList with
  | none =>
    have H := hide (smallOf_no bc br s w hk)
    clear hk
    go_enter Try.func7, Try.ntmps7
    go_wp2_with fail
    refine H.out.mono ?_
    rintro e w1 ⟨rfl, b1⟩
    go_wp2_with fail
    go_ret
    exact ⟨rfl, b1⟩
  | some p =>
    obtain ⟨ss, far⟩ := p
    obtain ⟨hS, hkk⟩ := smallK_some hk
    have H := hide (smallOf_yes bc br s w hkk hS)
    have ht := tried_of hS hkk
    obtain ⟨h9s, hlen⟩ := sets9_of hS hkk
    clear hk hS hkk hlen
    simp only
    generalize setsP bc br far ss = L at *
    obtain ⟨p1, p2⟩ := pow9 h9s.len
    have HST := hide (fun (A T : Option Addr) (c tc : Nat) (w5 : World) (hr : Row w5 A (ints (natI L))) (hT : Row w5 T ([true].map testV)) => setsThat_c A T c tc L [true] w5 hr h9s hT (by decide))
    have hsl := sets_len ([true].map (testP L)) (2 ^ L.length)
    have HSM := hide (sets_mem ([true].map (testP L)) (2 ^ L.length))
    have HG := hide ht.c
    clear h9s ht
    generalize setsOf ([true].map (testP L)) (2 ^ L.length) = S at *
    go_enter Try.func7, Try.ntmps7
    go_wp2_with fail
    refine H.out.mono ?_
    rintro e w1 ⟨A1, c1, rfl, o1, b1⟩
    have R1 := hide ((own_reads o1).alloc (.cells #[.func (.func 23) #[] #[]] 42))
    have T1 := hide (show Row (w1.alloc (.cells #[.func (.func 23) #[] #[]] 42)) (some ⟨w1.heap.size, 0, none⟩) ([true].map testV) from row_new w1 #[.func (.func 23) #[] #[]] 42 rfl)
    have b1 := b1.alloc b1.size (.cells #[.func (.func 23) #[] #[]] 42)
    clear o1
    go_wp2_with fail
    refine (HST.out _ _ _ _ _ R1.out T1.out).mono ?_
    rintro e w2 ⟨v2, rfl, o2, b2⟩
    obtain ⟨A2, c2, rfl, _⟩ := own_row o2
    have b2 := below_then b1 b1.size b2
    have R2 := hide (own_reads o2)
    clear o2 b1
    go_wp2_with fail
    go_ret
    exact ⟨by rw [← HG.out]; rfl, b2⟩

def maxTo (l : List Nat) (k : Nat) : Nat := (l.take k).foldl (fun a s => max a (pcN 9 s)) 0
theorem maxTo_snoc (l : List Nat) (k : Nat) (h : k < l.length) : maxTo l (k + 1) = max (maxTo l k) (pcN 9 (l[k]?.getD 0)) := by
  unfold maxTo
  rw [List.take_succ_eq_append_getElem h, List.foldl_append, List.getElem?_eq_getElem h]
  rfl

end Go.Proofs.Ytmednlgokcbdjad
