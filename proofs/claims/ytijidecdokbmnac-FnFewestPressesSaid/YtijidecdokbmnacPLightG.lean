
/-
  The program's lights: CanDarken; appends.
-/
import Derived.Test.YtijidecdokbmnacPLightE
import Derived.Test.YtijidecdokbmnacLightG
import Derived.Lib.MinMax
namespace Go.Proofs.Ytijidecdokbmnac
open Go.RowKit
set_option linter.unusedVariables false

set_option maxRecDepth 100000 in
theorem ones64_12 (t : Nat) (ht : t < 4096) (w : World) : Calls Try.prog 45 #[.int .u64 (t : Int)] w fun e w' => e = .returned (.int .i64 ((pcN 12 t : Nat) : Int)) ∧ w = w' := by
  go_enter Try.func45, Try.ntmps45
  go_wp2_with fail
  go_ret
  refine ⟨?_, rfl⟩
  refine (show Ending.returned (.int .i64 _) = _ from ret_int (k := .i64) ?_)
  obtain ⟨a, b, rfl⟩ : ∃ a b : Fin 64, a.val * 64 + b.val = t := ⟨⟨t / 64, by omega⟩, ⟨t % 64, by omega⟩, by simp only; omega⟩
  clear ht
  revert b
  revert a
  decide +kernel
theorem ones_12 (t : Nat) (ht : t < 4096) (w : World) : Calls Try.prog 39 #[.int .u64 (t : Int)] w fun e w' => e = .returned (.int .i64 ((pcN 12 t : Nat) : Int)) ∧ w = w' := by
  have H := hide (fun w5 => ones64_12 t ht w5)
  go_enter Try.func39, Try.ntmps39
  go_wp2_with fail
  refine (H.out _).mono ?_
  rintro e w1 ⟨rfl, rfl⟩
  go_wp2_with fail
  go_ret
  exact ⟨rfl, rfl⟩
theorem sizeOf_12 (t : Nat) (ht : t < 4096) (w : World) : Calls Try.prog 26 #[.int .i64 (t : Int)] w fun e w' => e = .returned (.int .i64 ((pcN 12 t : Nat) : Int)) ∧ w = w' := by
  have H := hide (fun w5 => ones_12 t ht w5)
  have e0 : IntKind.u64.wrap (t : Int) = (t : Int) := IntWalk.u64_in _ (by omega)
  go_enter Try.func26, Try.ntmps26
  go_wp2_with fail
  refine (H.out _).mono ?_
  rintro e w1 ⟨rfl, rfl⟩
  go_wp2_with fail
  go_ret
  exact ⟨rfl, rfl⟩

theorem field2 (a b : Int) : ∀ w : World, (Instr.field 44 (.agg #[.int .i64 a, .int .i64 b]) 1).run Try.prog w = .ok (.int .i64 b) w := fun w => by kernel_rfl
set_option maxHeartbeats 2000000 in
set_option maxRecDepth 100000 in
theorem implCanDarken_c (bc br x : Int) (W : World) : Calls Try.prog 8 #[.int .i64 bc, .int .i64 br, .int .i64 x] W (Plain (.bool (darkV bc br x)) W) := by
  have HLB := hide (litBoard_c bc br (some ⟨W.heap.size, 0, none⟩) 1 [x] (W.alloc (.cells #[.int .i64 x] 3)) (row_new W #[.int .i64 x] 3 rfl) (by simp))
  rcases HLB.out with ⟨w, h, rfl, rfl, hw, hh, h12, hS, hC⟩ | ⟨hN, hC⟩
  · obtain ⟨x', rfl⟩ := Int.eq_ofNat_of_zero_le (hS 0 (by simp)).1
    have hx : x' < 2 ^ (w * h) := by have h0 := (hS 0 (by simp)).2; have p := Nat.two_pow_pos (w * h); simp only [List.getElem?_cons_zero, Option.getD_some] at h0; omega
    rw [darkV_nat hw hh h12 hx]
    have HC := hide hC
    have hD := dat_is hw hh h12
    have HP := hide (fun w5 => dat_leads hw hh h12 w5)
    have hmb : ∀ k : Nat, ((datL w h).leads[k]?.getD (0, 0)).1 < 2 ^ 12 ∧ ((datL w h).leads[k]?.getD (0, 0)).2 < 2 ^ 12 := fun k => ⟨set12 h12 (hD.leadbd k).1, set12 h12 (hD.leadbd k).2⟩
    have hml : (datL w h).leads.length ≤ 12 := by
      have := (lead_lt (R := rowsP (datL w h).lit) (m := 64) (fun k => by
        rcases Nat.lt_or_ge k (w * h) with hk | hk
        · have e : (rowsP (datL w h).lit)[k]?.getD (0, 0) = (2 ^ k, (datL w h).lit[k]?.getD 0) := rowsP_at _ (by rw [hD.len]; exact hk)
          rw [e]
          exact ⟨Nat.pow_lt_pow_right (by omega) (by omega), Nat.lt_trans (set12 h12 (hD.bd k)) (by decide)⟩
        · rw [List.getElem?_eq_none (by rw [rowsP_len, hD.len]; omega)]
          exact ⟨by decide, by decide⟩) (w * h)).2.1
      rw [hD.leads] at this
      simp only at this
      omega
    have HLC := hide (fun (A : Option Addr) (c : Nat) (w5 : World) (hr : Row w5 A (cells2 (datL w h).leads)) (hA : (datL w h).leads.length ≠ 0 → ∃ g, A = some ⟨g, 0, none⟩) => less_c A c (datL w h).leads (0, x') w5 hr hA hmb (by omega) ⟨show (0 : Nat) < 2 ^ 12 by decide, set12 h12 hx⟩)
    clear HLB hS hC hx hh hw hD hmb hml
    generalize (datL w h).leads = M at *
    generalize (datL w h).quiet = Q at *
    generalize lessP M (0, x') = f at *
    obtain ⟨f1, f2⟩ := f
    have hff : ((f2 : Int) == 0) = (f2 == 0) := by
      rw [Bool.eq_iff_iff, beq_iff_eq, beq_iff_eq]; omega
    have HLC := hide (fun (A : Option Addr) (c : Nat) (w5 : World) (hr : Row w5 A (cells2 M)) (hA : M.length ≠ 0 → ∃ g, A = some ⟨g, 0, none⟩) => show Calls Try.prog 19 #[.agg #[.int .i64 0, .int .i64 (x' : Int)], .slice A M.length c] w5 (Plain (.agg #[.int .i64 (f1 : Int), .int .i64 (f2 : Int)]) w5) from HLC.out A c w5 hr hA)
    have hfld := field2 (f1 : Int) (f2 : Int)
    simp only
    obtain ⟨bb, hbb⟩ : ∃ bb, ((f2 : Int) == 0) = bb := ⟨_, rfl⟩
    rw [← hff, hbb]
    clear hff
    go_enter Try.func8, Try.ntmps8
    go_wp2_with fail
    refine HC.out.mono ?_
    rintro e w1 ⟨rfl, b1⟩
    have hb1 : Below W.heap.size W w1 := below_then ((Below.refl _ _).alloc (Nat.le_refl _) _) (by simp) b1
    clear b1 HC
    go_wp2_with fail
    refine (HP.out _).mono ?_
    rintro e w2 ⟨v1, v2, rfl, o1, o2, b2⟩
    have hb2 := below_then (hb1.alloc hb1.size (.cells #[.int .i64 (w : Int), .int .i64 (h : Int)] 34)) (hb1.alloc hb1.size (.cells #[.int .i64 (w : Int), .int .i64 (h : Int)] 34)).size b2
    obtain ⟨A1, c1, rfl, _⟩ := own_row o1
    have HH := hide (own_head o1)
    have R1 := hide (own_reads o1)
    clear o1 o2 b2 hb1
    go_wp2_with fail
    refine (HLC.out _ _ _ R1.out HH.out).mono ?_
    rintro e w3 ⟨rfl, b3⟩
    go_wp2_with fail
    go_ret
    exact ⟨rfl, below_then hb2 hb2.size b3⟩
  · have hv : darkV bc br x = false := by
      unfold darkV
      rw [decide_eq_false, Bool.false_and]
      intro h'
      rcases hN with hN | hN
      · refine hN fun i hi => ?_
        simp at hi
        subst hi
        exact h'
      · exact hN h'.1
    rw [hv]
    have HC := hide hC
    clear HLB hN hC hv
    go_enter Try.func8, Try.ntmps8
    go_wp2_with fail
    refine HC.out.mono ?_
    rintro e w1 ⟨rfl, b1⟩
    have hb1 : Below W.heap.size W w1 := below_then ((Below.refl _ _).alloc (Nat.le_refl _) _) (by simp) b1
    go_wp2_with fail
    go_ret
    exact ⟨rfl, hb1.alloc hb1.size _⟩

/-- AN APPEND TO A ROW OF THE CALL's OWN: what lay behind its old head is read there still. -/
theorem put_keep_run {P : Program} (w : World) {t e : TypeId} {size bytes : Nat} (ty : TypeId) (ht : P.underlying t = some (.slice e)) (he : Elem P e size bytes)
    {B g cap n m c : Nat} {xs news : List Value} {ad : Addr} (hown : w.ownsRow B e size (.slice (some ⟨g, 0, none⟩) n cap) n xs) (hl : news.length = m * size) (hr : Row w (some ad) news)
    (h1 : ∀ u ∈ news, u.oneCell' = true) (hsmall : n + m ≤ 1099511627776) (hbytes : bytes ≤ 100) (hB : B ≤ w.heap.size) :
    ∃ v' w', (Builtin.append_ #[t, t] ty #[.slice (some ⟨g, 0, none⟩) n cap, .slice (some ad) m c]).run P w = .ok v' w' ∧ w'.ownsRow B e size v' (n + m) (xs ++ news) ∧ w.grownBy w' (some g) ∧ Row w' (some ⟨g, 0, none⟩) xs := by
  obtain ⟨⟨i, z, hi, hz, hs, hby, hzs⟩, hpos⟩ := he
  have hb2 : (n + m) * bytes ≤ 140737488355328 := Nat.le_trans (Nat.mul_le_mul hsmall hbytes) (by omega)
  have hnews : ∀ j u, news[j]? = some u → w.cell? (ad.add j) = some u := fun j u hu => by
    obtain ⟨hj, rfl⟩ := List.getElem?_eq_some_iff.1 hu
    obtain ⟨_, ⟨rfl⟩, hc⟩ := hr j hj
    exact hc
  have hold := own_reads hown
  by_cases hroom : n + m ≤ cap
  · obtain ⟨w', h2, h3, h4⟩ := run_append_fits (P := P) w B t ty e i size ht hi hs g n cap xs hown ad m c news hl hnews h1 hroom
    refine ⟨_, w', h2, h3, h4, fun j hj => ⟨_, rfl, ?_⟩⟩
    have hlx := hown.1
    have := h3.cellAt j (by rw [← h3.1, List.length_append]; omega)
    rw [add0, this, List.getElem?_append_left hj, List.getElem?_eq_getElem hj]
  · obtain ⟨v', w', h2, h3, h4, _, h5⟩ := run_append_own_at (P := P) w B t ty e i z size bytes ht hi hz hs hby hzs hpos _ n xs hown ad m c news hl hnews h1 (by simp only [maxLen]; omega) hb2 hB
    have holds : ∀ j u, xs[j]? = some u → w.cell? ((⟨g, 0, none⟩ : Addr).add j) = some u := hown.cells (g := g) rfl
    have hr := run_append_grow (P := P) w t ty e i z ht hi hz ⟨g, 0, none⟩ n cap xs (by rw [hown.1, hs]) holds ad m c news (by rw [hl, hs]) hnews (by omega) (by omega) (growslice_fits (by omega) (by rw [hby]; exact hb2))
    rw [h2] at hr
    injection hr with e1 e2
    refine ⟨v', w', h2, h3, h4, ?_⟩
    rw [e2]
    exact hold.drew.alloc _
theorem put_keep {P : Program} {ops : Array Oper} {rest : List Oper} {o : Oper} {a : Act} {Q : Exit → Act → World → Prop} {w : World} (hgd : o.guard = none) (s x : Operand) {t : TypeId}
    (ho : o.op = .call { callee := .builtin .append, args := #[s, x], argTypes := #[t, t] })
    {e : TypeId} {size bytes : Nat} (ht : P.underlying t = some (.slice e)) (he : Elem P e size bytes)
    {B g cap n m c : Nat} {xs news : List Value} {ad : Addr} (hs : a.eval s = .slice (some ⟨g, 0, none⟩) n cap) (hown : w.ownsRow B e size (.slice (some ⟨g, 0, none⟩) n cap) n xs) (hx : a.eval x = .slice (some ad) m c) (hl : news.length = m * size) (hr : Row w (some ad) news)
    (h1 : ∀ u ∈ news, u.oneCell' = true) (hsmall : n + m ≤ 1099511627776) (hbytes : bytes ≤ 100) (hB : B ≤ w.heap.size)
    (h : ∀ v' w', w'.ownsRow B e size v' (n + m) (xs ++ news) → w.grownBy w' (some g) → Row w' (some ⟨g, 0, none⟩) xs → wpList P ops Q rest (a.put o.dst v') w') : wpList P ops Q (o :: rest) a w := by
  obtain ⟨v', w', hrun, h2, h3, h4⟩ := put_keep_run (P := P) w o.type ht he (c := c) hown hl hr h1 hsmall hbytes hB
  refine wpList_plain hgd fun K hK => ?_
  unfold Oper.wp execOp
  simp only [ho, resolve, invoke, builtin, Sem.run_bind, Sem.run_pure, Result.andThen_ok, List.map_toArray, List.map_cons, List.map_nil, hs, hx, hrun]
  exact hK _ _ (h v' w' h2 h3 h4)
end Go.Proofs.Ytijidecdokbmnac
