
/-
  The program's chases: chaseOf.
-/
import Derived.Test.YtakphmcelhbaiabPGuardB
import Derived.Test.YtakphmcelhbaiabPChaseA
import Derived.Test.YtakphmcelhbaiabChaseC
import Derived.BigRegion
namespace Go.Proofs.Ytakphmcelhbaiab
open Go.RowKit
set_option linter.unusedVariables false
set_option maxRecDepth 100000

/-- The sets with the own cells of the first k of them. -/
def mixTo (L : List Nat) (k : Nat) : List Nat := (nearS L).take k ++ L.drop k
theorem mix_none (L : List Nat) : mixTo L 0 = L := by simp [mixTo]
theorem mix_all (L : List Nat) : mixTo L L.length = nearS L := by
  unfold mixTo
  rw [← nearS_len L, List.take_length, nearS_len, List.drop_length, List.append_nil]
theorem mix_len (L : List Nat) {k : Nat} (h : k ≤ L.length) : (mixTo L k).length = L.length := by
  simp [mixTo, nearS_len]
  omega
theorem mix_at (L : List Nat) {k : Nat} (h : k < L.length) : (mixTo L k)[k]?.getD 0 = L[k]?.getD 0 := by
  unfold mixTo
  rw [List.getElem?_append_right (by simp [nearS_len]; omega)]
  simp [nearS_len, Nat.min_eq_left (Nat.le_of_lt h)]
theorem mix_set (L : List Nat) {k : Nat} (h : k < L.length) : (mixTo L k).set k (L[k]?.getD 0 ||| 2 ^ k) = mixTo L (k + 1) := by
  unfold mixTo
  have hk : ((nearS L).take k).length = k := by simp [nearS_len]; omega
  rw [List.set_append_right _ _ (by omega), hk, Nat.sub_self, List.drop_eq_getElem_cons h, List.set_cons_zero, List.take_succ_eq_append_getElem (by rw [nearS_len]; exact h), List.append_assoc]
  congr 1
  have := nearS_at h
  rw [List.getElem?_eq_getElem (by rw [nearS_len]; exact h), Option.getD_some] at this
  rw [this]
  rfl
/-- The chase of a small board, or none. -/
def ChaseIs (L : List Nat) (w : World) (e : Ending) (w' : World) : Prop := ∃ A c, e = .returned (.tuple #[.slice A L.length c, .bool true]) ∧ w'.ownsRow w.heap.size 3 1 (.slice A L.length c) L.length (ints (natI (nearS L))) ∧ Below w.heap.size w w'
set_option maxHeartbeats 1000000 in
theorem chaseOf_no (bc br : Int) (s : ByteArray) (w : World) (h : smallK bc br s.toList = none) : Calls Try.prog 22 #[.int .i64 bc, .int .i64 br, .string s] w (Plain (.tuple #[.slice none 0 0, .bool false]) w) := by
  have H := hide (smallOf_no bc br s w h)
  clear h
  go_enter Try.func22, Try.ntmps22
  go_wp2_with fail
  refine H.out.mono ?_
  rintro e w1 ⟨rfl, b1⟩
  go_wp2_with fail
  go_loopw [20] (fun v wr => v = .int .i64 0 ∧ w1 = wr) (fun _ _ => 0)
  case atStart => exact ⟨rfl, rfl⟩
  case round =>
    obtain ⟨rfl, rfl⟩ := hrel
    go_wp2_with fail
    go_ret2
    exact ⟨rfl, b1⟩
set_option maxHeartbeats 2000000 in
theorem chaseOf_yes (bc br : Int) (s : ByteArray) (w : World) {ss : List (Int × Int)} {far : Bool} (hk : kindL s.toList = some (ss, far)) (hS : Small bc br) :
    Calls Try.prog 22 #[.int .i64 bc, .int .i64 br, .string s] w (ChaseIs (setsP bc br far ss) w) := by
  have H := hide (smallOf_yes bc br s w hk hS)
  obtain ⟨h9s, _⟩ := sets9_of hS hk
  have h9 := h9s.len
  clear hk hS
  generalize setsP bc br far ss = L at *
  have HMN := hide (mix_none L)
  have HMA := hide (mix_all L)
  have HML := hide (fun k (h : k ≤ L.length) => mix_len L h)
  have HMT := hide (fun k (h : k < L.length) => mix_at L h)
  have HMS := hide (fun k (h : k < L.length) => mix_set L h)
  have HBD := hide h9s.bd
  clear h9s
  go_enter Try.func22, Try.ntmps22
  go_wp2_with fail
  refine H.out.mono ?_
  rintro e w1 ⟨A1, c1, rfl, o1, b1⟩
  clear H
  go_wp2_with fail
  generalize mixTo L = M at *
  go_loopw [20] (fun v wr => ∃ k : Nat, k ≤ L.length ∧ v = .int .i64 (k : Int) ∧ wr.ownsRow w.heap.size 3 1 (.slice A1 L.length c1) L.length (ints (natI (M k))) ∧ Below w.heap.size w wr) (fun v _ => L.length - (intOf v).toNat)
  case atStart => exact ⟨0, Nat.zero_le _, rfl, by rw [HMN.out]; exact o1, b1⟩
  case round =>
    clear o1 b1
    obtain ⟨k, hk, rfl, hown, hb⟩ := hrel
    obtain ⟨wo, rfl⟩ : ∃ wo : World, wo = wr := ⟨_, rfl⟩
    by_cases hlt : k < L.length
    · have hml := HML.out k hk
      have hmt := HMT.out k hlt
      have hms := hide (HMS.out k hlt)
      have hbd := HBD.out k
      have hpk : 2 ^ k < 512 := Nat.lt_of_le_of_lt (Nat.pow_le_pow_right (by omega) (by omega : k ≤ 8)) (by decide)
      have es := shl9 k (by omega)
      obtain ⟨ga, ca, ea, _, _, hrow, _, _⟩ := own_one hown (by omega)
      injection ea with ea _ ec
      subst ea
      subst ec
      obtain ⟨_, ⟨rfl⟩, hck⟩ := hrow.int (k := k) (by rw [natI_len, hml]; exact hlt)
      rw [natI_at, hmt, show (⟨ga, 0, none⟩ : Addr).add k = ⟨ga, k, none⟩ by unfold Addr.add; split <;> simp_all] at hck
      generalize L[k]?.getD 0 = x at *
      obtain ⟨eo, ho⟩ := i64_or9 x (2 ^ k) hbd hpk
      generalize 2 ^ k = P at *
      have hfk := hown.frozenAt k
      obtain ⟨ost, gst⟩ := hown.stored k (.int .i64 ((x ||| P : Nat) : Int))
      have hset : (ints (natI (M k))).set k (.int .i64 ((x ||| P : Nat) : Int)) = ints (natI (M (k + 1))) := by
        rw [ints_setg, ← hms.out]
        congr 1
        simp [natI, List.map_set]
      rw [hset] at ost
      have S1 := hide ost
      have S2 := hide (hb.grown gst hb.size (fun n e => by have := (hown.lt n e).1; omega))
      generalize x ||| P = y at *
      have k0 : (0 : Int) ≤ (k : Int) := by omega
      have k1 : (k : Int) < (L.length : Int) := by omega
      have k9 : (k : Int) ≤ 64 := by omega
      have HLT := hide hlt
      clear hms ost gst hset hown hrow hml hmt hb
      go_wp2_with fail
      go_region
      all_goals go_wp2_with fail
      exact ⟨⟨k + 1, HLT.out, by go_num, S1.out, S2.out.drew⟩, by simp [intOf]; omega⟩
    · obtain rfl : k = L.length := by omega
      rw [HMA.out] at hown
      go_wp2_with fail
      go_ret2
      exact ⟨_, _, rfl, hown, hb⟩
end Go.Proofs.Ytakphmcelhbaiab
