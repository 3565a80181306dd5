
/-
  slices.Repeat of one number.
-/
import Derived.Test.YtbecnjfdolagcacDoorBase
import Derived.Test.YtbecnjfdolagcacDoorProg
import Derived.Test.YtbecnjfdolagcacDoorShelf
import Derived.RegionTactic
import Derived.Deep.QuietTactic
import Derived.BigQuiet
import Derived.ProofKit
import Derived.Handy
import Derived.Laws.CopyOwn
import Derived.OwnWalk
import Derived.Deep.OwnRows
import Derived.Deep.RegionLaw
import Derived.Deep.LoopGhost
namespace Go.Proofs.YtbecnjfdolagcacDoor
open Go.RowKit
set_option linter.unusedVariables false

theorem mul_one_n (n : Nat) (h : n ≤ 1000) (w : World) : Calls Tryd.prog 51 #[.int .u64 1, .int .u64 (n : Int)] w fun e w' => e = .returned (.tuple #[.int .u64 0, .int .u64 (n : Int)]) ∧ w = w' := by
  have := Tryd.bits_Mul 1 n (by omega) (by omega) w
  rw [show 1 * n / 18446744073709551616 = 0 from by omega, show 1 * n % 18446744073709551616 = n from by omega] at this
  exact this.mono fun e w' ⟨he, hw⟩ => ⟨he, hw.symm⟩
theorem size_int : (Tryd.prog.info? 3).map (·.size) = some 1 := by kernel_rfl

theorem own_box {w : World} {base e g n : Nat} {xs : List Value} (h : w.ownsRow base e 1 (.slice (some ⟨g, 0, none⟩) n n) n xs) : Box w g e xs.toArray := by
  rcases h.2 with ⟨h', _⟩ | ⟨g', cap, cur, h', _, hg, _, _, hs, ht⟩
  · cases h'
  · injection h' with h1 _ h3
    injection h1 with h1
    injection h1 with h1 _
    subst h1 h3
    have : cur = xs.toArray := by
      rw [← ht, List.take_of_length_le (by simp; omega)]
    rw [← this]
    exact hg
theorem box_own {w : World} {base e g n : Nat} {xs : List Value} (h : Box w g e xs.toArray) (hb : base ≤ g) (hn : xs.length = n) (hm : n ≤ maxLen) : w.ownsRow base e 1 (.slice (some ⟨g, 0, none⟩) n n) n xs :=
  ⟨by omega, .inr ⟨g, n, xs.toArray, rfl, hb, h, Nat.le_refl _, hm, by simp; omega, List.take_of_length_le (by simp; omega)⟩⟩

set_option maxHeartbeats 1000000 in
set_option maxRecDepth 100000 in
theorem repeat_c (n : Nat) (g : Nat) (x : Int) (w : World) (n1 : 1 ≤ n) (n2 : n ≤ 25) (hc : w.cell? ⟨g, 0, none⟩ = some (.int .i64 x)) :
    Calls Tryd.prog 31 #[.slice (some ⟨g, 0, none⟩) 1 1, .int .i64 n] w (Owns 3 1 n (ints (List.replicate n x)) w) := by
  have HM := hide (fun (w : World) => mul_one_n n (by omega) w)
  obtain ⟨⟨i0, z0, hi0, hz0, hz1, hz2, hz3⟩, _⟩ := (Elem.of (P := Tryd.prog) (e := 3) (size := 1) (bytes := 8) (z := .int .i64 0) (by kernel_rfl) rfl (by omega))
  have hgl := World.block_lt_of_cell? w _ hc
  go_enter Tryd.func31, Tryd.ntmps31
  go_wp2_with fail
  refine (HM.out _).mono ?_
  rintro e w1 ⟨rfl, rfl⟩
  go_wp2_with (first
    | (at_make; refine wpList_make_full _ rfl (.tmp 29) (.tmp 29) 28 rfl w.heap.size 3 i0 z0 1 Tryd.underlying28 hi0 hz0 hz1 .i64 .i64 n n n rfl rfl rfl rfl (by rw [hz2]; omega) (by simp [maxLen]; omega) (Nat.le_refl _) ?_
       intro w1 hown1 hg1
       have bx := own_box hown1
       have hXl := hown1.1
       have hb1 : Below w.heap.size w w1 := (Below.refl _ _).grown hg1 (Nat.le_refl _) (fun k h => by cases h)
       have hc1 := (hb1.cell (p := ⟨g, 0, none⟩) hgl).trans hc
       clear hown1 hg1
       generalize (madeCells z0.cells (n * 1)).toList = X at *)
    | (refine wpList_copy_splice rfl (.tmp 31) (.tmp 32) 28 28 rfl 3 Tryd.underlying28 size_int (some ⟨w.heap.size, 0, none⟩) (some ⟨g, 0, none⟩) n n 1 1 rfl rfl w.heap.size 0 X 3 bx [.int .i64 x] (by simp only [List.length_cons, List.length_nil, Nat.min_def]; split <;> omega) (fun _ => ⟨rfl, _, rfl, fun j v h => by
         rcases j with _ | j
         · simp only [List.getElem?_cons_zero, Option.some.injEq] at h; subst h; exact hc1
         · simp at h⟩) (by simp only [List.length_cons, List.length_nil]; omega) (by simp [Value.oneCell']) w.heap.size w hb1 (Nat.le_refl _) ?_
       intro w2 bx2 hb2
       have bx2 : Box w2 w.heap.size 3 (splice X 0 [Value.int .i64 x]).toArray := bx2.out))
  clear bx hb1 hc1
  have hY : (splice X 0 [Value.int .i64 x]).length = n ∧ (splice X 0 [Value.int .i64 x]).take 1 = List.replicate 1 (Value.int .i64 x) := ⟨by rw [length_splice _ _ _ (by simp; omega)]; omega, by simp [splice]⟩
  generalize splice X 0 [Value.int .i64 x] = Y at *
  have HY := hide hY
  clear hY hXl
  go_loopg [8] n (fun f a wr => ∃ (m : Nat) (Z : List Value), a = .int .i64 m ∧ 1 ≤ m ∧ m ≤ n ∧ n - m < f ∧ Box wr w.heap.size 3 Z.toArray ∧ Hid (Z.length = n ∧ Z.take m = List.replicate m (Value.int .i64 x)) ∧ Below w.heap.size w wr)
  case atStart => exact ⟨1, Y, rfl, by omega, by omega, by omega, bx2, HY.out, hb2⟩
  case round =>
    obtain ⟨m, Z, rfl, m1, m2, m3, bz, HZ, hb⟩ := hrel
    obtain ⟨wo, rfl⟩ : ∃ wo : World, wo = wr := ⟨_, rfl⟩
    by_cases hlt : m < n
    · have i1 : (0 : Int) ≤ (m : Int) := by omega
      have i2 : (m : Int) ≤ (n : Int) := by omega
      have hne : ¬ n = m := by omega
      obtain ⟨q, hq⟩ : ∃ q, (Z.take m).take (n - m) = q := ⟨_, rfl⟩
      have hql : q.length = Nat.min m (n - m) := by rw [← hq, List.length_take, List.length_take, HZ.out.1]; simp only [Nat.min_def]; split <;> split <;> split <;> omega
      go_wp2_with fail
      have hbd := hb.drew
      have bzd : Box wo.drew w.heap.size 3 Z.toArray := bz
      have hpos : 0 < q.length → (some (⟨w.heap.size, m, none⟩ : Addr)) = some ⟨w.heap.size, m, none⟩ ∧ ∃ ad, (some (⟨w.heap.size, 0, none⟩ : Addr)) = some ad ∧ ∀ j v, q[j]? = some v → wo.drew.cell? (ad.add j) = some v := fun _ => ⟨rfl, _, rfl, fun j v h => by
        rw [← hq] at h
        rw [List.getElem?_take, List.getElem?_take] at h
        split at h
        · split at h
          · rw [show (⟨w.heap.size, 0, none⟩ : Addr).add j = ⟨w.heap.size, j, none⟩ from by unfold Addr.add; split <;> simp_all]
            rw [bzd.cell j]
            simpa using h
          · cases h
        · cases h⟩
      have hfit : m + q.length ≤ Z.length := by rw [hql, HZ.out.1]; simp only [Nat.min_def]; split <;> omega
      have hone : ∀ v ∈ q, v.oneCell' = true := fun v hv => by
        rw [← hq, HZ.out.2] at hv
        have := List.eq_of_mem_replicate (List.mem_of_mem_take hv)
        subst this
        rfl
      have Hpos := hide hpos
      have Hone := hide hone
      have hqz : Hid (splice Z m q = Z.take m ++ (q ++ Z.drop (m + q.length))) := rfl
      have Hq := hide hq
      have hql2 : q.length ≤ n - m ∧ 1 ≤ q.length := by rw [hql]; simp only [Nat.min_def]; split <;> omega
      have Hql := hide hql
      obtain ⟨l1, l2⟩ := hql2
      clear hpos hone hq hql
      go_region_law (refine step_copy_splice rfl (.tmp 41) (.tmp 44) 28 28 rfl 3 Tryd.underlying28 size_int (some ⟨w.heap.size, m, none⟩) (some ⟨w.heap.size, 0, none⟩) (n - m) (n - m) m n (by simp [Act.eval, Act.put]) (by simp [Act.eval, Act.put]) w.heap.size m Z 3 bzd q Hql.out Hpos.out hfit Hone.out w.heap.size w hbd (Nat.le_refl _) ?_; intro w4 bz4 hb4)
      have hsl : Hid ((splice Z m q).length = n ∧ (splice Z m q).take (m + q.length) = List.replicate (m + q.length) (Value.int .i64 x)) := by
        refine ⟨by rw [length_splice _ _ _ hfit]; exact HZ.out.1, ?_⟩
        have hlm : (Z.take m).length = m := by rw [List.length_take, HZ.out.1]; omega
        have hqr : q = List.replicate q.length (Value.int .i64 x) := List.eq_replicate_of_mem fun v hv => by
          rw [← Hq.out, HZ.out.2] at hv
          exact List.eq_of_mem_replicate (List.mem_of_mem_take hv)
        rw [hqz.out, ← List.append_assoc, List.take_append_of_le_length (by rw [List.length_append, hlm]; exact Nat.le_refl _), List.take_of_length_le (by rw [List.length_append, hlm]; exact Nat.le_refl _), HZ.out.2]
        conv => lhs; rw [hqr]
        rw [List.replicate_append_replicate]
      have bz4' : Box w4 w.heap.size 3 (splice Z m q).toArray := bz4.out
      clear bz4 Hql hfit Hq hqz Hpos Hone
      generalize splice Z m q = Z' at *
      generalize q.length = ql at *
      go_wp2_with fail
      go_roundg (n - (m + ql) + 1)
      case rel => exact ⟨m + ql, Z', by rw [show IntKind.i64.wrap ((m : Int) + (ql : Int)) = (m : Int) + (ql : Int) from IntWalk.i64_in _ (by omega)]; go_num, by omega, by omega, by omega, bz4', hsl.out, hb4⟩
      case measure => omega
    · have hk2 : Hid (m = n) := hide (by omega)
      go_wp2_with fail
      go_ret
      refine ⟨_, rfl, ?_, hb⟩
      have := HZ.out
      rw [hk2.out, List.take_of_length_le (by omega)] at this
      rw [this.2] at bz
      simpa [ints] using box_own bz (Nat.le_refl _) (by simp) (by simp [maxLen]; omega)
end Go.Proofs.YtbecnjfdolagcacDoor
