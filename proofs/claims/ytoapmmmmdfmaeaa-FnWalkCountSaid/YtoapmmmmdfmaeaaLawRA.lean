
/-
  The walk of the law FnWalkCount, off the contracts of the program's functions (given).
-/
import Derived.Test.YtoapmmmmdfmaeaaWalkD
import Derived.Test.YtoapmmmmdfmaeaaDrawM
namespace Go.Proofs.Ytoapmmmmdfmaeaa
open Go.RowKit
set_option linter.unusedVariables false

/-- The sum over the first of the cells reached. -/
def sumL (f : Nat → Nat) : List Nat → Nat
  | [] => 0
  | x :: r => f x + sumL f r
theorem sumL_app (f : Nat → Nat) : ∀ l m, sumL f (l ++ m) = sumL f l + sumL f m
  | [], m => by simp [sumL]
  | x :: l, m => by
    show f x + sumL f (l ++ m) = f x + sumL f l + sumL f m
    rw [sumL_app f l m]
    omega
theorem sumL_filter (f : Nat → Nat) (L : List Nat) (k : Nat) : ∀ n, sumL f ((List.range n).filter fun x => bitN (L[k]?.getD 0) x == 1) = sm (fun a => f a * goesN L k a) n
  | 0 => rfl
  | n + 1 => by
    rw [List.range_succ, List.filter_append, sumL_app, sumL_filter f L k n]
    show _ = sm (fun a => f a * goesN L k a) n + f n * goesN L k n
    congr 1
    unfold goesN
    rcases bitN_two (L[k]?.getD 0) n with h | h <;> simp [h, sumL]
theorem sumL_le {f : Nat → Nat} {B : Nat} (hf : ∀ x, f x ≤ B) : ∀ l : List Nat, sumL f l ≤ l.length * B
  | [] => by simp [sumL]
  | x :: r => by
    have := sumL_le hf r
    have := hf x
    show f x + sumL f r ≤ (r.length + 1) * B
    rw [Nat.add_mul, Nat.one_mul]
    omega
theorem sumL_take {f : Nat → Nat} {l : List Nat} {j : Nat} (hj : j < l.length) : sumL f (l.take (j + 1)) = sumL f (l.take j) + f (l[j]?.getD 0) := by
  rw [List.take_succ_eq_append_getElem hj, sumL_app, List.getElem?_eq_getElem hj]
  simp [sumL]
/-- Over all cells from which a piece goes there. -/
theorem walk_sum {L : List Nat} (hs : ∀ a b, a < L.length → b < L.length → goesN L a b = goesN L b a) (i m k : Nat) (hk : k < L.length) : sumL (walkN L i m) (reachU L k) = walkN L i (m + 1) k := by
  unfold reachU
  rw [sumL_filter]
  exact sm_congr fun a ha => by rw [hs k a hk ha]
theorem walkCV_is {a b n i k m : Nat} {s : List UInt8} {ss : List (Int × Int)} {far : Bool} (hsm : smallK (a : Int) (b : Int) s = some (ss, far)) (hab : a * b = n) (hi : i < n) (hk : k < n) (hm : m ≤ 8) : walkCV (a : Int) (b : Int) s (i : Int) (k : Int) (m : Int) = (walkN (setsP (a : Int) (b : Int) far ss) i m k : Int) := by
  unfold walkCV
  rw [hsm]
  simp only
  have hz : (a : Int) * (b : Int) = (n : Int) := by rw [← Int.natCast_mul, hab]
  rw [hz, if_pos (by omega)]
  simp only [Int.toNat_natCast]
theorem walkCV_no {bc br i k m : Int} {s : List UInt8} (h : ¬ ∃ (a b n i' k' m' : Nat) (ss : List (Int × Int)) (far : Bool), bc = (a : Int) ∧ br = (b : Int) ∧ i = (i' : Int) ∧ k = (k' : Int) ∧ m = (m' : Int) ∧ smallK bc br s = some (ss, far) ∧ a * b = n ∧ i' < n ∧ k' < n ∧ m' ≤ 8 ∧ Small bc br ∧ kindL s = some (ss, far)) : walkCV bc br s i k m = -1 := by
  unfold walkCV
  cases hsm : smallK bc br s with
  | none => rfl
  | some p =>
    obtain ⟨ss, far⟩ := p
    refine if_neg (fun hc => h ?_)
    obtain ⟨⟨h1, h2⟩, ⟨h3, h4⟩, h5, h6⟩ := hc
    obtain ⟨hS, hk⟩ := smallK_some hsm
    obtain ⟨s1, s2, s3, s4, s5⟩ := hS
    have hz : bc * br = ((bc.toNat * br.toNat : Nat) : Int) := by rw [Int.natCast_mul, Int.toNat_of_nonneg (by omega), Int.toNat_of_nonneg (by omega)]
    exact ⟨bc.toNat, br.toNat, _, i.toNat, k.toNat, m.toNat, ss, far, by omega, by omega, by omega, by omega, by omega, hsm, rfl, by omega, by omega, by omega, ⟨s1, s2, s3, s4, s5⟩, hk⟩
set_option maxHeartbeats 4000000 in
set_option maxRecDepth 100000 in
theorem walkCount_w (HI : ∀ (bc br : Int) (s : ByteArray) (i k m : Int) (w5 : World), Calls Try.prog 8 #[.int .i64 bc, .int .i64 br, .string s, .int .i64 i, .int .i64 k, .int .i64 m] w5 (Plain (.int .i64 (walkCV bc br s.toList i k m)) w5))
    (HR : ∀ (bc br : Int) (s : ByteArray) (ss : List (Int × Int)) (far : Bool) (i : Nat) (w5 : World), smallK bc br s.toList = some (ss, far) → i < (setsP bc br far ss).length → Calls Try.prog 10 #[.int .i64 bc, .int .i64 br, .string s, .int .i64 (i : Int), .slice none 0 0] w5 (Owns 3 1 (reachU (setsP bc br far ss) i).length (ints (natI (reachU (setsP bc br far ss) i))) w5))
    (A : Option Addr) (n c : Nat) (w : World) (h : Code w A n c) : Calls Try.prog 4 #[.slice A n c] w (Plain (.bool true) w) := by
  by_cases hl : 1048576 < (n : Int)
  · go_enter Try.func4, Try.ntmps4
    go_wp2
    go_ret
    exact ⟨rfl, Below.refl _ _⟩
  · have HC := hide (drawWalkCount_c A n c w h)
    have HI := hide HI
    have HR := hide HR
    clear h
    go_enter Try.func4, Try.ntmps4
    go_wp2_with fail
    refine HC.out.mono ?_
    rintro e w1 ⟨bc, br, i, k, m, s, rfl, -, -, -, -, -, -, b1⟩
    have HI1 := hide (fun w5 => HI.out bc br s i k m w5)
    have HS1 := hide (fun w5 => specWalkCount_c bc br s i k m w5)
    clear HC
    by_cases hex : ∃ (a b n i' k' m' : Nat) (ss : List (Int × Int)) (far : Bool), bc = (a : Int) ∧ br = (b : Int) ∧ i = (i' : Int) ∧ k = (k' : Int) ∧ m = (m' : Int) ∧ smallK bc br s.toList = some (ss, far) ∧ a * b = n ∧ i' < n ∧ k' < n ∧ m' ≤ 8 ∧ Small bc br ∧ kindL s.toList = some (ss, far)
    · obtain ⟨a, b, n, i, k, m, ss, far, rfl, rfl, rfl, rfl, rfl, hsm, hab, hi, hk, hm, hS, hkk⟩ := hex
      obtain ⟨a', b', n', hW⟩ := walk_of hS hkk
      have hn' : n' = n := by
        have h1 : a' = a := by have := hW.eqc; omega
        have h2 : b' = b := by have := hW.eqr; omega
        rw [← hW.sz, h1, h2, hab]
      have hlen : (setsP (a : Int) (b : Int) far ss).length = n := by rw [hW.len, hn']
      have hn9 : n ≤ 9 := by rw [← hn']; exact hW.nine
      have hs := sym_of hW.tab
      rw [walkCV_is hsm hab hi hk hm] at HI1 HS1
      have HIX := hide (fun (x : Nat) (hx : x < n) (m' : Nat) (hm' : m' ≤ 8) w5 => show Calls Try.prog _ #[.int .i64 (a : Int), .int .i64 (b : Int), .string s, .int .i64 (i : Int), .int .i64 (x : Int), .int .i64 (m' : Int)] w5 (Plain (.int .i64 (walkN (setsP (a : Int) (b : Int) far ss) i m' x : Int)) w5) by
        have := HI.out (a : Int) (b : Int) s (i : Int) (x : Int) (m' : Int) w5
        rwa [walkCV_is hsm hab hi hx hm'] at this)
      have HIB := hide (fun w5 => show Calls Try.prog _ #[.int .i64 (a : Int), .int .i64 (b : Int), .string s, .int .i64 (k : Int), .int .i64 (i : Int), .int .i64 (m : Int)] w5 (Plain (.int .i64 (walkN (setsP (a : Int) (b : Int) far ss) i m k : Int)) w5) by
        have := HI.out (a : Int) (b : Int) s (k : Int) (i : Int) (m : Int) w5
        rwa [walkCV_is hsm hab hk hi hm, ← walk_back hs m i k (by omega) (by omega)] at this)
      have HRk := hide (fun w5 => HR.out (a : Int) (b : Int) s ss far k w5 hsm (by omega))
      have h9L : (setsP (a : Int) (b : Int) far ss).length ≤ 9 := by omega
      have hrk : (reachU (setsP (a : Int) (b : Int) far ss) k).length ≤ 9 := by
        have := List.length_filter_le (fun x => bitN ((setsP (a : Int) (b : Int) far ss)[k]?.getD 0) x == 1) (List.range (setsP (a : Int) (b : Int) far ss).length)
        rw [List.length_range] at this
        exact Nat.le_trans this h9L
      have hrm := fun x (hx : x ∈ reachU (setsP (a : Int) (b : Int) far ss) k) => show x < n by
        rw [← hlen]; exact List.mem_range.1 (List.mem_filter.1 hx).1
      have HWL := hide (fun (m' c : Nat) (hm' : m' ≤ 8) => Nat.le_trans (walk_le (setsP (a : Int) (b : Int) far ss) i h9L m' c) (pow9_le hm'))
      have HSUM := hide (fun m' => walk_sum hs i m' k (by omega))
      have HZ : Hid (walkN (setsP (a : Int) (b : Int) far ss) i 0 k = if k = i then 1 else 0) := rfl
      have hml := HWL.out m k hm
      clear HI HR hs hW hS hkk hsm hlen h9L hab hi hk
      generalize reachU (setsP (a : Int) (b : Int) far ss) k = R at *
      generalize walkN (setsP (a : Int) (b : Int) far ss) i = F at *
      by_cases hm0 : m = 0
      · have hfk : Hid (F m k = if k = i then 1 else 0) := by rw [hm0]; exact HZ
        obtain ⟨v, hv⟩ : ∃ v, F m k = v := ⟨_, rfl⟩
        rw [hv] at HI1 HS1 hfk
        have hm1 : ((m : Int) == 0) = true := by rw [beq_iff_eq]; omega
        obtain ⟨M1, hM1⟩ : ∃ M1 : Int, (m : Int) = M1 := ⟨_, rfl⟩
        rw [hM1] at HI1 HS1 hm1
        rw [hM1]
        have hv0 : ¬ ((v : Int) < 0) := by omega
        have hvv : ((v : Int) != (v : Int)) = false := by simp
        have hvw : ((v : Int) == (v : Int)) = true := by simp
        have hvc : (((v : Int) == 1) == ((i : Int) == (k : Int))) = true := by
          have hq := hfk.out
          by_cases hik : k = i
          · rw [if_pos hik] at hq
            rw [hq, hik]
            simp
          · rw [if_neg hik] at hq
            have t : ((i : Int) == (k : Int)) = false := by rw [beq_eq_false_iff_ne]; omega
            rw [hq, t]
            rfl
        clear hM1 hm0 hfk HZ hv HIX HIB HRk HWL HSUM hrm hml
        go_wp2_with fail
        refine (HI1.out _).mono ?_
        rintro e w2 ⟨rfl, b2⟩
        have b12 := below_then b1 b1.size b2
        go_wp2_with fail
        refine (HS1.out _).mono ?_
        rintro e w3 ⟨rfl, b3⟩
        have b13 := below_then b12 b12.size b3
        go_wp2_with fail
        go_ret
        exact ⟨rfl, b13⟩
      · obtain ⟨m, rfl⟩ : ∃ m', m = m' + 1 := ⟨m - 1, by omega⟩
        have hs := HSUM.out m
        obtain ⟨v, hv⟩ : ∃ v, F (m + 1) k = v := ⟨_, rfl⟩
        rw [hv] at HI1 HS1 HIB hs hml
        have HSU := hide hs
        have em : IntKind.i64.wrap (((m + 1 : Nat) : Int) - 1) = (m : Int) := (IntWalk.i64_in _ (by omega)).trans (by omega)
        have em2 : IntKind.i64.wrap (m : Int) = (m : Int) := IntWalk.i64_in _ (by omega)
        have hm1 : (((m + 1 : Nat) : Int) == 0) = false := by rw [beq_eq_false_iff_ne]; omega
        have hv0 : ¬ ((v : Int) < 0) := by omega
        have hvv : ((v : Int) != (v : Int)) = false := by simp
        have hvw : ((v : Int) == (v : Int)) = true := by simp
        have HIXm := hide (fun x hx w5 => HIX.out x hx m (by omega) w5)
        have HWLm := hide (fun c => HWL.out m c (by omega))
        have HTK := hide (fun j (hj : j < R.length) => sumL_take (f := F m) hj)
        have HLE := hide (fun j => sumL_le HWLm.out (R.take j))
        have HRM := hide (fun j (hj : j < R.length) => hrm (R[j]?.getD 0) (by rw [List.getElem?_eq_getElem hj]; exact List.getElem_mem hj))
        have HS0 : Hid (sumL (F m) (R.take 0) = 0) := rfl
        have HSA := hide (show sumL (F m) (R.take R.length) = v by rw [List.take_length]; exact HSU.out)
        have hRl := natI_len R
        clear HIX HWL HSUM HSU HZ hrm hv hs
        obtain ⟨M1, hM1⟩ : ∃ M1 : Int, ((m + 1 : Nat) : Int) = M1 := ⟨_, rfl⟩
        rw [hM1] at HI1 HS1 HIB em hm1
        rw [hM1]
        clear hM1
        go_wp2_with fail
        refine (HI1.out _).mono ?_
        rintro e w2 ⟨rfl, b2⟩
        have b12 := below_then b1 b1.size b2
        go_wp2_with fail
        refine (HS1.out _).mono ?_
        rintro e w3 ⟨rfl, b3⟩
        have b13 := below_then b12 b12.size b3
        go_wp2_with fail
        refine (HRk.out _).mono ?_
        rintro e w4 ⟨v4, rfl, o4, b4⟩
        obtain ⟨A4, c4, rfl, _⟩ := own_row o4
        have b14 := below_then b13 b13.size b4
        have R4 := hide (own_reads o4)
        clear o4
        go_wp2_with fail
        go_loopw [10, 12] (fun sv jv wr => ∃ j : Nat, j ≤ R.length ∧ jv = .int .i64 (j : Int) ∧ sv = .int .i64 ((sumL (F m) (R.take j) : Nat) : Int) ∧ Below w4.heap.size w4 wr) (fun _ jv _ => R.length - (intOf jv).toNat)
        case atStart => exact ⟨0, Nat.zero_le _, rfl, by rw [HS0.out]; rfl, Below.refl _ _⟩
        case round =>
          obtain ⟨j, hj, rfl, rfl, hb⟩ := hrel
          obtain ⟨wo, rfl⟩ : ∃ wo : World, wo = wr := ⟨_, rfl⟩
          by_cases hjl : j < R.length
          · obtain ⟨ad, rfl, hck⟩ := (R4.out.below hb).int (k := j) (by omega)
            rw [natI_at] at hck
            have hx := HRM.out j hjl
            have htk := hide (HTK.out j hjl)
            have hle := HLE.out j
            have hxl := HWLm.out (R[j]?.getD 0)
            have HX := hide (HIXm.out (R[j]?.getD 0) hx)
            have hlt : (R.take j).length ≤ 9 := by rw [List.length_take]; omega
            have hmul : (R.take j).length * 43046721 ≤ 9 * 43046721 := Nat.mul_le_mul hlt (Nat.le_refl _)
            obtain ⟨sj, hsj⟩ : ∃ sj, sumL (F m) (R.take j) = sj := ⟨_, rfl⟩
            rw [hsj] at htk hle ⊢
            generalize R[j]?.getD 0 = x at *
            obtain ⟨fx, hfx⟩ : ∃ fx, F m x = fx := ⟨_, rfl⟩
            rw [hfx] at htk hxl HX
            have es : IntKind.i64.wrap ((sj : Int) + (fx : Int)) = ((sj + fx : Nat) : Int) := (IntWalk.i64_in _ (by omega)).trans (by omega)
            obtain ⟨sn, hsn⟩ : ∃ sn, sj + fx = sn := ⟨_, rfl⟩
            rw [hsn] at es htk
            have j0 : (0 : Int) ≤ (j : Int) := by omega
            have j1 : (j : Int) < (R.length : Int) := by omega
            have HJ := hide hjl
            clear hsj hfx hsn hle hmul hlt hx
            go_wp2_with fail
            refine (HX.out _).mono ?_
            rintro e w6 ⟨rfl, b6⟩
            have hb6 := below_then hb hb.size b6
            go_wp2_with fail
            exact ⟨⟨j + 1, HJ.out, by go_num, by rw [htk.out], hb6⟩, by simp [intOf]; omega⟩
          · obtain rfl : j = R.length := by omega
            rw [HSA.out]
            have hb7 := below_then b14 b14.size hb
            go_wp2_with fail
            refine (HIB.out _).mono ?_
            rintro e w6 ⟨rfl, b6⟩
            go_wp2_with fail
            go_ret
            exact ⟨rfl, below_then hb7 hb7.size b6⟩
    · rw [walkCV_no hex] at HI1 HS1
      clear hex HI HR
      go_wp2_with fail
      refine (HI1.out _).mono ?_
      rintro e w2 ⟨rfl, b2⟩
      have b12 := below_then b1 b1.size b2
      go_wp2_with fail
      refine (HS1.out _).mono ?_
      rintro e w3 ⟨rfl, b3⟩
      have b13 := below_then b12 b12.size b3
      go_wp2_with fail
      refine (HS1.out _).mono ?_
      rintro e w4 ⟨rfl, b4⟩
      have b14 := below_then b13 b13.size b4
      go_wp2_with fail
      go_ret
      exact ⟨rfl, b14⟩
end Go.Proofs.Ytoapmmmmdfmaeaa
