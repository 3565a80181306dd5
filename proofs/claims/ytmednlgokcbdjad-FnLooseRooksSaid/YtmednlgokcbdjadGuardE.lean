
/-
  Guards: the model's FewestGuards.
-/
import Derived.Test.YtmednlgokcbdjadGuardD
namespace Go.Proofs.Ytmednlgokcbdjad
open Go.RowKit
set_option linter.unusedVariables false

theorem scan_le (n : Nat) (ok : Nat → Bool) : ∀ k, scanP n ok k ≤ n
  | 0 => Nat.le_refl _
  | k + 1 => by
    have := scan_le n ok k
    simp only [scanP]
    split
    · rename_i h
      rw [Bool.and_eq_true, decide_eq_true_eq] at h
      omega
    · exact this

set_option maxHeartbeats 1000000 in
theorem fewestGuards_c (bc br : Int) (s : ByteArray) (w : World) : Calls Try.prog 17 #[.int .i64 bc, .int .i64 br, .string s] w (Plain (.int .i64 (valueOf bc br s.toList fewGuards)) w) := by
  have HVS := hide (validSmall_c bc br s w)
  unfold valueOf
  cases hk : smallK bc br s.toList with
  | none =>
    rw [hk] at HVS
    clear hk
    go_enter Try.func17, Try.ntmps17
    go_wp2_with fail
    refine HVS.out.mono ?_
    rintro e w1 ⟨rfl, b1⟩
    go_wp2_with fail
    go_ret
    exact ⟨rfl, b1⟩
  | some p =>
    obtain ⟨ss, far⟩ := p
    rw [hk] at HVS
    obtain ⟨hS, hkk⟩ := smallK_some hk
    have HSR := hide (fun w5 => reaches_c bc br s ss far w5 hkk hS)
    obtain ⟨h9s, hlen⟩ := sets9_of hS hkk
    have h9 := h9s.len
    simp only
    clear hk hS hkk
    generalize setsP bc br far ss = L at *
    have HG := hide (fun (k : Nat) (hk : k < 512) (A : Option Addr) (c : Nat) (w5 : World) (hr : Row w5 A (ints (natI L))) => guards_c A c L k w5 hr h9s hk)
    have HBt := hide (fun (k : Nat) (hk : k ≤ 512) (w5 : World) => specBits_c k hk w5)
    have HP := hide (fun w5 => specPower9_c L.length h9 w5)
    obtain ⟨p1, p2⟩ := pow9 h9
    have e0 : IntKind.i64.wrap (bc * br) = (L.length : Int) := by rw [← hlen]; exact IntWalk.i64_in _ (by omega)
    have HPC := hide (fun (k : Nat) (hk : k < 2 ^ L.length) => show pcN L.length k = pcN 512 k from pcN_small ⟨L.length, by omega⟩ ⟨k, by omega⟩ hk)
    have HV : Hid (fewGuards L = scanP L.length (guardsP L) (2 ^ L.length)) := rfl
    have HS0 := hide (scan_le L.length (guardsP L))
    have HST := hide (fun k => show scanP L.length (guardsP L) (k + 1) = if pcN L.length k < scanP L.length (guardsP L) k && guardsP L k then pcN L.length k else scanP L.length (guardsP L) k from rfl)
    clear hlen h9s
    generalize 2 ^ L.length = P at *
    go_enter Try.func17, Try.ntmps17
    go_wp2_with fail
    refine HVS.out.mono ?_
    rintro e w1 ⟨rfl, b1⟩
    go_wp2_with fail
    refine (HSR.out _).mono ?_
    rintro e w2 ⟨v2, rfl, o2, b2⟩
    obtain ⟨A2, c2, rfl, _⟩ := own_row o2
    have b2 := below_then b1 b1.size b2
    have R2 := hide (own_reads o2)
    clear o2
    go_wp2_with fail
    go_loopw [8, 9] (fun b i wr => ∃ k : Nat, k ≤ P ∧ i = .int .i64 (k : Int) ∧ b = .int .i64 ((scanP L.length (guardsP L) k : Nat) : Int) ∧ w2 = wr) (fun _ i _ => P - (intOf i).toNat)
    case atStart => exact ⟨0, Nat.zero_le _, rfl, rfl, rfl⟩
    case round =>
      obtain ⟨k, hk, rfl, rfl, rfl⟩ := hrel
      by_cases hlt : k < P
      · have HB := hide (fun w5 => HBt.out k (by omega) w5)
        have HGk := hide (HG.out k (by omega) A2 c2 w2 R2.out)
        have hpc := HPC.out k hlt
        have hsk := HST.out k
        rw [show pcN L.length k = pcN 512 k from hpc] at hsk
        have HK := hide hsk
        have hle := HS0.out k
        have hpl := pcN_le 512 k
        clear hpc hsk
        generalize scanP L.length (guardsP L) k = b at *
        generalize pcN 512 k = q at *
        generalize guardsP L k = g at *
        by_cases hq : q < b
        · cases g with
          | true =>
            go_wp2_with fail
            refine (HP.out _).mono ?_
            rintro e w7 ⟨rfl, rfl⟩
            go_wp2_with fail
            refine (HB.out _).mono ?_
            rintro e w7 ⟨rfl, rfl⟩
            go_wp2_with fail
            refine HGk.out.mono ?_
            rintro e w7 ⟨rfl, rfl⟩
            go_wp2_with fail
            refine (HB.out _).mono ?_
            rintro e w7 ⟨rfl, rfl⟩
            go_wp2_with fail
            exact ⟨⟨k + 1, hlt, by go_num, by rw [HK.out]; simp [hq], trivial⟩, by simp [intOf]; omega⟩
          | false =>
            go_wp2_with fail
            refine (HP.out _).mono ?_
            rintro e w7 ⟨rfl, rfl⟩
            go_wp2_with fail
            refine (HB.out _).mono ?_
            rintro e w7 ⟨rfl, rfl⟩
            go_wp2_with fail
            refine HGk.out.mono ?_
            rintro e w7 ⟨rfl, rfl⟩
            go_wp2_with fail
            exact ⟨⟨k + 1, hlt, by go_num, by rw [HK.out]; simp, trivial⟩, by simp [intOf]; omega⟩
        · go_wp2_with fail
          refine (HP.out _).mono ?_
          rintro e w7 ⟨rfl, rfl⟩
          go_wp2_with fail
          refine (HB.out _).mono ?_
          rintro e w7 ⟨rfl, rfl⟩
          go_wp2_with fail
          exact ⟨⟨k + 1, hlt, by go_num, by rw [HK.out]; simp [hq], trivial⟩, by simp [intOf]; omega⟩
      · obtain rfl : k = P := by omega
        rw [← HV.out]
        go_wp2_with fail
        refine (HP.out _).mono ?_
        rintro e w7 ⟨rfl, rfl⟩
        go_wp2_with fail
        go_ret
        exact ⟨rfl, b2⟩
end Go.Proofs.Ytmednlgokcbdjad
