
/-
  The model's RookCounts.
-/
import Derived.Test.YtlccohoblplddabRookB
import Derived.Test.YtlccohoblplddabSpRookB
namespace Go.Proofs.Ytlccohoblplddab
open Go.RowKit
set_option linter.unusedVariables false

theorem nats_within {l : List Int} (h : Seats l) {k : Nat} (hk : k < l.length) (d : Nat) (hd : ((natsP l)[k]?.getD 0).testBit d = true) : d < l.length := by
  have h1 := (nats_at h hk).2
  by_cases e : d < l.length
  · exact e
  · rw [Nat.testBit_lt_two_pow (Nat.lt_of_lt_of_le h1 (Nat.pow_le_pow_right (by omega) (by omega)))] at hd
    cases hd
set_option maxHeartbeats 400000 in
theorem rookCounts0_c (A : Option Addr) (c : Nat) (l : List Int) (w : World) (hr : Row w A (ints l)) (hs : Seats l) :
    Calls Try.prog 22 #[.slice A l.length c] w (Owns 3 1 (l.length + 1) (ints (countsP l)) w) := by
  obtain ⟨h1, h5⟩ := hs.1
  have HC := hide (rookFrom_c A c l (natsP l) h5 (nats_len l) (fun i hi => (nats_at hs hi).1) (fun i hi => Nat.lt_of_lt_of_le (nats_at hs hi).2 (pow32 h5)) (fun i hi d hd => nats_within hs hi d hd) l.length 0 (by omega) 0 (by omega) w hr)
  rw [List.drop_zero] at HC
  have HE := hide (fun (L : List Int) (h1 : L.length = l.length + 1) (h2 : ∀ k : Nat, L[k]?.getD 0 = ((rk (natsP l) 0 k : Nat) : Int)) => show countsP l = L by
    apply List.ext_getElem
    · simp [countsP, h1]
    · intro i i1 i2
      have h3 := h2 i
      rw [List.getElem?_eq_getElem i2, Option.getD_some] at h3
      simp only [countsP, List.getElem_map, List.getElem_range]
      exact h3.symm)
  have HL := hide (nats_len l)
  clear hs
  generalize countsP l = res at *
  generalize natsP l = R at *
  go_enter Try.func22, Try.ntmps22
  go_wp2_with fail
  refine HC.out.mono ?_
  rintro e w1 ⟨v1, L1, rfl, o1, ⟨l1, l2⟩, hv1, b1⟩
  rw [HL.out] at l2
  go_wp2_with fail
  go_loopw [3] (fun v wr => ∃ L : List Int, wr.ownsRow w.heap.size 3 1 v L.length (ints L) ∧ 1 ≤ L.length ∧ L.length ≤ l.length + 1 ∧ Hid (∀ k : Nat, L[k]?.getD 0 = ((rk R 0 k : Nat) : Int)) ∧ Below w.heap.size w wr) (fun v _ => l.length + 2 - lenW v)
  case atStart => exact ⟨L1, o1, l1, l2, hv1, b1⟩
  case round =>
    clear o1 l1 l2 hv1 b1
    obtain ⟨L, hown, l1, l2, hv, hb⟩ := hrel
    obtain ⟨wo, rfl⟩ : ∃ wo : World, wo = wr := ⟨_, rfl⟩
    have z := hb.size
    obtain ⟨g', c', rfl, _⟩ := own_one hown (by omega)
    by_cases hsh : L.length ≤ l.length
    · have hva := hide (hown.alloc (.cells #[.int .i64 0] 3))
      have hba := hb.alloc z (.cells #[.int .i64 0] 3)
      go_wp2_with ((at_builtin; refine put_own rfl (.tmp 11) (.tmp 12) rfl Try.underlying22 elem_int' rfl hva.out rfl (m := 1) (news := [.int .i64 0]) rfl (row_new _ _ _ rfl) (by simp [Value.oneCell']) (by omega) (by omega) hba.size ?_; intro v9 w9 own9 hg9 ho9))
      have own9' : w9.ownsRow w.heap.size 3 1 v9 (L ++ [0]).length (ints (L ++ [0])) := by simpa [ints] using own9
      refine ⟨⟨L ++ [0], own9', by simp, by simp; omega, fun k => by rw [pad_at]; exact hv.out k, below_grown hba hba.size hva.out (Nat.le_refl _) hg9⟩, ?_⟩
      rw [own_lenW own9']; simp [lenW]; omega
    · have hle : Hid (L.length = l.length + 1) := hide (by omega)
      go_wp2_with fail
      go_ret
      refine ⟨_, rfl, ?_, hb⟩
      rw [HE.out L hle.out hv.out]
      rw [hle.out] at hown ⊢
      exact hown
theorem specRookCounts_c (A : Option Addr) (c : Nat) (l : List Int) (w : World) (hr : Row w A (ints l)) (hm : l.length ≤ maxLen) :
    Calls Try.prog 19 #[.slice A l.length c] w (Owns 3 1 (if Seats l then countsP l else []).length (ints (if Seats l then countsP l else [])) w) := by
  have HV := hide (specValidSeats0_c A c l w hr hm)
  by_cases hs : Seats l
  · rw [decide_eq_true hs] at HV
    rw [if_pos hs]
    have HO := hide (fun (w5 : World) (h5 : Row w5 A (ints l)) => rookCounts0_c A c l w5 h5 hs)
    have hl := hide (show (countsP l).length = l.length + 1 by simp [countsP])
    clear hs hm
    generalize countsP l = res at *
    go_enter Try.func19, Try.ntmps19
    go_wp2_with fail
    refine HV.out.mono ?_
    rintro e w1 ⟨rfl, b1⟩
    go_wp2_with fail
    refine (HO.out _ (hr.below b1)).mono ?_
    rintro e w2 ⟨v, rfl, own, b2⟩
    go_wp2_with fail
    go_ret
    exact ⟨v, rfl, by rw [hl.out]; exact own_mono own b1.size, below_then b1 b1.size b2⟩
  · rw [decide_eq_false hs] at HV
    rw [if_neg hs]
    clear hs hm hr
    go_enter Try.func19, Try.ntmps19
    go_wp2_with fail
    refine HV.out.mono ?_
    rintro e w1 ⟨rfl, b1⟩
    go_wp2_with fail
    go_ret
    exact ⟨_, rfl, ⟨rfl, .inl ⟨rfl, rfl⟩⟩, b1⟩
end Go.Proofs.Ytlccohoblplddab
