
/-
  The walk of the law FnLooseRooks.
-/
import Derived.Test.YtmednlgokcbdjadPGuardD
import Derived.Test.YtmednlgokcbdjadGuardH
import Derived.Test.YtmednlgokcbdjadGuardN
import Derived.Test.YtmednlgokcbdjadDrawG
import Derived.Test.YtmednlgokcbdjadLawGF
import Derived.Test.YtmednlgokcbdjadRookB
namespace Go.Proofs.Ytmednlgokcbdjad
open Go.RowKit
set_option linter.unusedVariables false

def sumT (l : List Int) : Nat → Int
  | 0 => 0
  | k + 1 => sumT l k + l[k]?.getD 0
/-- All cells allowed. -/
def fullR (n : Nat) : List Int := List.replicate n (fullP n)
theorem loose_rooks : ∀ a : Fin 3, ((countL (setsP ((a.val + 1 : Nat) : Int) ((a.val + 1 : Nat) : Int) true straight) : Nat) : Int) = sumT (countsP (fullR (a.val + 1))) (a.val + 2) ∧ (∀ k : Fin 6, 0 ≤ sumT (countsP (fullR (a.val + 1))) k.val ∧ sumT (countsP (fullR (a.val + 1))) k.val ≤ 1000) ∧ ∀ k : Fin 6, 0 ≤ (countsP (fullR (a.val + 1)))[k.val]?.getD 0 ∧ (countsP (fullR (a.val + 1)))[k.val]?.getD 0 ≤ 1000 := by decide +kernel
theorem fullR_seats {n : Nat} (h1 : 1 ≤ n) (h5 : n ≤ 5) : Seats (fullR n) := by
  have hb := full_bd h1 h5
  refine ⟨by simp [fullR]; omega, fun i hi => ?_⟩
  simp only [fullR, List.length_replicate] at hi ⊢
  rw [List.getElem?_replicate, if_pos hi]
  simp only [Option.getD_some]
  omega

set_option maxHeartbeats 400000 in
theorem total_c (A : Option Addr) (c : Nat) (l : List Int) (w : World) (hr : Row w A (ints l)) (hm : l.length ≤ 5) (hb : ∀ k : Fin 6, 0 ≤ sumT l k.val ∧ sumT l k.val ≤ 1000) (hx : ∀ k : Fin 6, 0 ≤ l[k.val]?.getD 0 ∧ l[k.val]?.getD 0 ≤ 1000) :
    Calls Try.prog 13 #[.slice A l.length c] w fun e w' => e = .returned (.int .i64 (sumT l l.length)) ∧ w = w' := by
  have HR := hide hr
  have HB := hide (fun (k : Nat) (hk : k ≤ 5) => hb ⟨k, by omega⟩)
  have HX := hide (fun (k : Nat) (hk : k ≤ 5) => hx ⟨k, by omega⟩)
  clear hr hb hx
  go_enter Try.func13, Try.ntmps13
  go_wp2_with fail
  go_loopw [3, 4] (fun a i wr => ∃ k : Nat, k ≤ l.length ∧ i = .int .i64 (k : Int) ∧ a = .int .i64 (sumT l k) ∧ w = wr) (fun _ i _ => l.length - (intOf i).toNat)
  case atStart => exact ⟨0, Nat.zero_le _, rfl, rfl, rfl⟩
  case round =>
    obtain ⟨k, hk, rfl, rfl, rfl⟩ := hrel
    by_cases hlt : k < l.length
    · obtain ⟨ad, rfl, hck⟩ := HR.out.int (k := k) hlt
      obtain ⟨s1, s2⟩ := HB.out k (by omega)
      obtain ⟨x1, x2⟩ := HX.out k (by omega)
      have HS : Hid (sumT l (k + 1) = sumT l k + l[k]?.getD 0) := rfl
      generalize l[k]?.getD 0 = x at *
      generalize sumT l k = a at *
      have e1 : IntKind.i64.wrap (a + x) = a + x := IntWalk.i64_in _ (by omega)
      have k0 : (0 : Int) ≤ (k : Int) := by omega
      have k1 : (k : Int) < (l.length : Int) := by omega
      go_wp2_with fail
      exact ⟨⟨k + 1, hlt, rfl, by rw [HS.out], trivial⟩, by simp [intOf]; omega⟩
    · obtain rfl : k = l.length := by omega
      go_wp2_with fail
      go_ret
      exact ⟨rfl, rfl⟩

set_option maxHeartbeats 4000000 in
set_option maxRecDepth 100000 in
theorem looseRooks_w (A : Option Addr) (n c : Nat) (w : World) (h : Code w A n c) : Calls Try.prog 4 #[.slice A n c] w (Plain (.bool true) w) := by
  by_cases hl : 1048576 < (n : Int)
  · go_enter Try.func4, Try.ntmps4
    go_wp2
    go_ret
    exact ⟨rfl, Below.refl _ _⟩
  · have HC := hide (drawCountLoose_c A n c w h)
    clear h
    go_enter Try.func4, Try.ntmps4
    go_wp2_with fail
    refine HC.out.mono ?_
    rintro e w1 ⟨bc, br, s, rfl, hx, hy, hs, b1⟩
    have HI := hide (fun w5 => implCountLoose_c bc br s w5)
    have HS := hide (fun w5 => countLoose_c bc br s w5)
    obtain ⟨V, hV⟩ : ∃ V, valueOf bc br s.toList countL = V := ⟨_, rfl⟩
    rw [hV] at HI HS
    clear hV
    have hVV : (V != V) = false := by simp
    obtain ⟨m, hm⟩ : ∃ m, min bc br = m := ⟨_, rfl⟩
    have HK := hide (fun w5 => implValidSmall_c m m s w5)
    cases hk : smallK m m s.toList with
    | none =>
      rw [hk] at HK
      have hvn : (none : Option (List (Int × Int) × Bool)).isSome = false := rfl
      rw [hvn] at HK
      clear hk hvn
      go_wp2_with fail
      refine (HI.out _).mono ?_
      rintro e w2 ⟨rfl, b2⟩
      have b2 := below_then b1 b1.size b2
      go_wp2_with fail
      refine (HS.out _).mono ?_
      rintro e w3 ⟨rfl, b3⟩
      have b3 := below_then b2 b2.size b3
      go_wp2_with fail
      refine (HK.out _).mono ?_
      rintro e w4 ⟨rfl, b4⟩
      have b4 := below_then b3 b3.size b4
      go_wp2_with fail
      go_ret
      exact ⟨rfl, b4⟩
    | some p =>
      rw [hk, Option.isSome_some] at HK
      obtain ⟨ss, far⟩ := p
      obtain ⟨⟨h1, h2, h3, h4, h9⟩, _⟩ := smallK_some hk
      clear hk
      have hm3 : m = 1 ∨ m = 2 ∨ m = 3 := by
        have : m = 1 ∨ m = 2 ∨ m = 3 ∨ m = 4 ∨ m = 5 := by omega
        rcases this with e | e | e | e | e
        · exact .inl e
        · exact .inr (.inl e)
        · exact .inr (.inr e)
        · rw [e] at h9; exact absurd h9 (by decide)
        · rw [e] at h9; exact absurd h9 (by decide)
      obtain ⟨q, rfl⟩ : ∃ q : Nat, m = (q : Int) := ⟨m.toNat, by omega⟩
      have q1 : 1 ≤ q := by omega
      have q3 : q ≤ 3 := by omega
      have HL := hide (fun w5 => implCountLoose_c (q : Int) (q : Int) ⟨#[114, 111, 111, 107]⟩ w5)
      rw [valueOf_some _ ⟨h1, h2, h3, h4, h9⟩ kind_rook] at HL
      obtain ⟨f1, f2, f3⟩ := loose_rooks ⟨q - 1, by omega⟩
      simp only [show q - 1 + 1 = q by omega, show q - 1 + 2 = q + 1 by omega] at f1 f2 f3
      rw [f1] at HL
      have hfl : (fullR q).length = q := by simp [fullR]
      have hcl : (countsP (fullR q)).length = q + 1 := by simp [countsP, hfl]
      have HR := hide (fun (A : Option Addr) (c : Nat) (w5 : World) (h5 : Row w5 A (ints (fullR q))) => implRookCounts_c A c (fullR q) w5 h5 (by rw [hfl]; unfold maxLen; omega))
      rw [if_pos (fullR_seats q1 (by omega)), hfl, hcl] at HR
      have HT := hide (fun (A : Option Addr) (c : Nat) (w5 : World) (h5 : Row w5 A (ints (countsP (fullR q)))) => total_c A c (countsP (fullR q)) w5 h5 (by omega) f2 f3)
      rw [hcl] at HT
      have HP := hide (fun w5 => lawPower9_c q (by omega) w5)
      have hfb := full_bd q1 (show q ≤ 5 by omega)
      have e1 : IntKind.i64.wrap (((2 ^ q : Nat) : Int) - 1) = fullP q := IntWalk.i64_in _ (by unfold fullP at hfb; omega)
      have HF : Hid (fullR q = List.replicate q (fullP q)) := rfl
      have p9 := pow9 (n := q) (by omega)
      clear h1 h2 h3 h4 h9 hm3 f1 f2 f3
      generalize countsP (fullR q) = C at *
      generalize sumT C (q + 1) = T at *
      generalize fullR q = FR at *
      generalize fullP q = F at *
      generalize (2 ^ q : Nat) = P at *
      have hTT : (T == T) = true := by simp
      go_wp2_with fail
      refine (HI.out _).mono ?_
      rintro e w2 ⟨rfl, b2⟩
      have b2 := below_then b1 b1.size b2
      go_wp2_with fail
      refine (HS.out _).mono ?_
      rintro e w3 ⟨rfl, b3⟩
      have b3 := below_then b2 b2.size b3
      go_wp2_with fail
      refine (HK.out _).mono ?_
      rintro e w4 ⟨rfl, b4⟩
      have b4 := below_then b3 b3.size b4
      have hz3 : w.heap.size ≤ w4.heap.size := b4.size
      go_wp2_with fail
      go_loopw [7, 8] (fun v i wr => ∃ k : Nat, k ≤ q ∧ i = .int .i64 (k : Int) ∧ wr.ownsRow w4.heap.size 3 1 v k (ints (List.replicate k F)) ∧ Below w.heap.size w wr ∧ w4.heap.size ≤ wr.heap.size) (fun _ i _ => q - (intOf i).toNat)
      case atStart => exact ⟨0, Nat.zero_le _, rfl, by simpa [ints] using World.ownsRow_made w4 #[] 0 (Nat.le_refl _) (by simp [maxLen]) rfl, b4.alloc b4.size _, by simp⟩
      case round =>
        obtain ⟨k, hk, rfl, hown, hb, hz⟩ := hrel
        obtain ⟨wo, rfl⟩ : ∃ wo : World, wo = wr := ⟨_, rfl⟩
        obtain ⟨A0, c0, rfl, _⟩ := own_row hown
        by_cases hlt : k < q
        · go_wp2_with fail
          refine (HP.out _).mono ?_
          rintro e w7 ⟨rfl, rfl⟩
          have hvc := hide (hown.alloc (.cells #[.int .i64 F] 3))
          have hbc := hb.alloc hb.size (.cells #[.int .i64 F] 3)
          have hzc : w4.heap.size ≤ (wo.alloc (.cells #[.int .i64 F] 3)).heap.size := by simp; omega
          go_wp2_with ((at_builtin; refine put_own rfl (.tmp 41) (.tmp 45) rfl Try.underlying26 elem_int' rfl hvc.out rfl (m := 1) (news := [.int .i64 F]) rfl (row_new _ _ _ rfl) (by simp [Value.oneCell']) (by omega) (by omega) hzc ?_; intro v9 w9 own9 hg9 ho9))
          exact ⟨⟨k + 1, hlt, rfl, by rw [List.replicate_succ']; simpa [ints] using own9, below_grown hbc hbc.size hvc.out hz3 hg9, Nat.le_trans hzc hg9.size⟩, by simp [intOf]; omega⟩
        · obtain rfl : q = k := by omega
          rw [← HF.out] at hown
          have RL := hide (own_reads hown)
          clear hown
          go_wp2_with fail
          refine (HL.out _).mono ?_
          rintro e w5 ⟨rfl, b5⟩
          have R5 := hide (RL.out.below b5)
          have b5 := below_then hb hb.size b5
          go_wp2_with fail
          refine (HR.out _ _ _ R5.out).mono ?_
          rintro e w6 ⟨v6, rfl, o6, b6⟩
          have b6 := below_then b5 b5.size b6
          obtain ⟨A6, c6, rfl, _⟩ := own_row o6
          have R6 := hide (own_reads o6)
          clear o6
          go_wp2_with fail
          refine (HT.out _ _ _ R6.out).mono ?_
          rintro e w7 ⟨rfl, rfl⟩
          go_wp2_with fail
          go_ret
          exact ⟨rfl, b6⟩
end Go.Proofs.Ytmednlgokcbdjad
