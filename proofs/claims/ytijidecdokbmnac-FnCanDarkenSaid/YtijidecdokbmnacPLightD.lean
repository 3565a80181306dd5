
/-
  The program's lights: plus, less, leadRows.
-/
import Derived.Test.YtijidecdokbmnacPLightB
import Derived.StillTailTactics
namespace Go.Proofs.Ytijidecdokbmnac
open Go.RowKit
set_option linter.unusedVariables false

abbrev row2V (p : Row2) : Value := .agg #[.int .i64 ((p.1 : Nat) : Int), .int .i64 ((p.2 : Nat) : Int)]
abbrev row2A (p : Row2) : Array Value := #[.int .i64 ((p.1 : Nat) : Int), .int .i64 ((p.2 : Nat) : Int)]
/-- Two cells stored, one after the other. -/
theorem end2 {w : World} {g : Nat} {t : TypeId} {x y : Value} (h : Box w g t #[x, y]) (u v : Value) :
    w.cell? ⟨g, 0, none⟩ = some x ∧ w.frozen? ⟨g, 0, none⟩ = false ∧ (w.setCell ⟨g, 0, none⟩ u).cell? ⟨g, 1, none⟩ = some y ∧ (w.setCell ⟨g, 0, none⟩ u).frozen? ⟨g, 1, none⟩ = false ∧
    ((w.setCell ⟨g, 0, none⟩ u).setCell ⟨g, 1, none⟩ v).cell? ⟨g, 0, none⟩ = some u ∧ ((w.setCell ⟨g, 0, none⟩ u).setCell ⟨g, 1, none⟩ v).cell? ⟨g, 1, none⟩ = some v ∧ Box ((w.setCell ⟨g, 0, none⟩ u).setCell ⟨g, 1, none⟩ v) g t #[u, v] :=
  ⟨h.cell 0, h.free 0, (h.set 0 u).cell 1, (h.set 0 u).free 1, ((h.set 0 u).set 1 v).cell 0, ((h.set 0 u).set 1 v).cell 1, (h.set 0 u).set 1 v⟩

set_option maxHeartbeats 1000000 in
set_option maxRecDepth 100000 in
theorem plus_c (a b : Row2) (ha : a.1 < 4096 ∧ a.2 < 4096) (hb : b.1 < 4096 ∧ b.2 < 4096) (W : World) : Calls Try.prog 38 #[row2V a, row2V b] W (Plain (row2V (plus2 a b)) W) := by
  obtain ⟨a1, a2⟩ := a
  obtain ⟨b1, b2⟩ := b
  have HL := hide (fun w5 => addedL_c a2 b2 ha.2 hb.2 w5)
  have HP := hide (fun w5 => addedP_c a1 b1 ha.1 hb.1 w5)
  show Calls Try.prog 38 #[.agg #[.int .i64 (a1 : Int), .int .i64 (a2 : Int)], .agg #[.int .i64 (b1 : Int), .int .i64 (b2 : Int)]] W (Plain (.agg #[.int .i64 ((a1 ^^^ b1 : Nat) : Int), .int .i64 ((a2 ^^^ b2 : Nat) : Int)]) W)
  generalize a1 ^^^ b1 = c1 at *
  generalize a2 ^^^ b2 = c2 at *
  clear ha hb
  have bx0 := ((Box.new W 44 #[.int .i64 (a1 : Int), .int .i64 (a2 : Int)]).alloc (.cells #[.int .i64 (b1 : Int), .int .i64 (b2 : Int)] 44)).alloc (.cells #[.int .i64 0, .int .i64 0] 44)
  have bx1 := (Box.new (W.alloc (.cells #[.int .i64 (a1 : Int), .int .i64 (a2 : Int)] 44)) 44 #[.int .i64 (b1 : Int), .int .i64 (b2 : Int)]).alloc (.cells #[.int .i64 0, .int .i64 0] 44)
  have bx2 := Box.new ((W.alloc (.cells #[.int .i64 (a1 : Int), .int .i64 (a2 : Int)] 44)).alloc (.cells #[.int .i64 (b1 : Int), .int .i64 (b2 : Int)] 44)) 44 #[.int .i64 0, .int .i64 0]
  simp only [World.size_alloc] at bx1 bx2
  have hb : Below W.heap.size W (((W.alloc (.cells #[.int .i64 (a1 : Int), .int .i64 (a2 : Int)] 44)).alloc (.cells #[.int .i64 (b1 : Int), .int .i64 (b2 : Int)] 44)).alloc (.cells #[.int .i64 0, .int .i64 0] 44)) := (((Below.refl _ _).alloc (Nat.le_refl _) _).alloc (by simp) _).alloc (by simp; omega) _
  go_enter Try.func38, Try.ntmps38
  go_wp2_with fail
  have hsz : W.heap.size + 1 + 1 = W.heap.size + 2 := rfl
  have zW : (((W.alloc (.cells #[.int .i64 (a1 : Int), .int .i64 (a2 : Int)] 44)).alloc (.cells #[.int .i64 (b1 : Int), .int .i64 (b2 : Int)] 44)).alloc (.cells #[.int .i64 0, .int .i64 0] 44)).heap.size = W.heap.size + 3 := by simp
  generalize (((W.alloc (.cells #[.int .i64 (a1 : Int), .int .i64 (a2 : Int)] 44)).alloc (.cells #[.int .i64 (b1 : Int), .int .i64 (b2 : Int)] 44)).alloc (.cells #[.int .i64 0, .int .i64 0] 44)) = wo at *
  have k0 := bx0.cell 0
  have k1 := bx0.cell 1
  have k2 := bx1.cell 0
  have k3 := bx1.cell 1
  refine wp_region_still_tail 11 (by kernel_rfl) (by kernel_rfl) ?_
  simp only [List.take_succ_cons, List.take_zero, List.drop_succ_cons, List.drop_zero]
  repeat still_step
  still_call ((HP.out _).mono (fun _ _ h => ⟨h.1, h.2.symm⟩))
  repeat still_step
  still_call ((HL.out _).mono (fun _ _ h => ⟨h.1, h.2.symm⟩))
  repeat still_step
  try refine wpStill_nil ?_
  have bx2d : Box wo.drew (W.heap.size + 1 + 1) 44 #[.int .i64 0, .int .i64 0] := bx2
  have hbd := hb.drew
  change wpList _ _ _ _ _ wo.drew
  clear bx0 bx1 bx2 hb k0 k1 k2 k3
  generalize wo.drew = wd at *
  obtain ⟨d1, d2, d3, d4, d5, d6, _⟩ := end2 bx2d (.int .i64 (c1 : Int)) (.int .i64 (c2 : Int))
  go_wp2_with fail
  refine bodyPost_ret (v := .agg #[.int .i64 (c1 : Int), .int .i64 (c2 : Int)]) (by simp [results, Try.results38, go_sem, d5, d6]) rfl ⟨rfl, ?_⟩
  exact (hbd.setCell (by simp) _).setCell (by simp) _

set_option maxHeartbeats 2000000 in
set_option maxRecDepth 100000 in
theorem less_c (A : Option Addr) (c : Nat) (M : List Row2) (r : Row2) (W : World) (hr : Row W A (cells2 M)) (hA : M.length ≠ 0 → ∃ g, A = some ⟨g, 0, none⟩) (hM : ∀ k : Nat, (M[k]?.getD (0, 0)).1 < 2 ^ 12 ∧ (M[k]?.getD (0, 0)).2 < 2 ^ 12) (hl : M.length ≤ 1000) (hrb : r.1 < 2 ^ 12 ∧ r.2 < 2 ^ 12) :
    Calls Try.prog 19 #[row2V r, .slice A M.length c] W (Plain (row2V (lessP M r)) W) := by
  have HR := hide hr
  have HM := hide hM
  have HB := hide (fun k => less_lt hM hrb k)
  have H0 := hide (show lessTo M r 0 = r from rfl)
  have HS := hide (fun k => show lessTo M r (k + 1) = if (lessTo M r k).2 &&& lowS (M[k]?.getD (0, 0)).2 = 0 then lessTo M r k else plus2 (lessTo M r k) (M[k]?.getD (0, 0)) from rfl)
  have HE : Hid (lessP M r = lessTo M r M.length) := rfl
  have HA := hide hA
  have bx0 := (Box.new W 44 (row2A r)).alloc (.cells #[.int .i64 0, .int .i64 0] 44)
  have bx1 := Box.new (W.alloc (.cells (row2A r) 44)) 44 #[.int .i64 0, .int .i64 0]
  simp only [World.size_alloc] at bx1
  have hb0 : Below W.heap.size W ((W.alloc (.cells (row2A r) 44)).alloc (.cells #[.int .i64 0, .int .i64 0] 44)) := ((Below.refl _ _).alloc (Nat.le_refl _) _).alloc (by simp) _
  clear hr hM hA hrb
  generalize lessP M r = fin at *
  obtain ⟨r1, r2⟩ := r
  go_enter Try.func19, Try.ntmps19
  go_wp2_with fail
  go_loopw [10] (fun i wr => ∃ k : Nat, k ≤ M.length ∧ i = .int .i64 (k : Int) ∧ Below W.heap.size W wr ∧ Box wr W.heap.size 44 (row2A (lessTo M (r1, r2) k)) ∧ Box wr (W.heap.size + 1) 44 #[.int .i64 0, .int .i64 0]) (fun i _ => M.length - (intOf i).toNat)
  case atStart => exact ⟨0, Nat.zero_le _, rfl, hb0, by rw [H0.out]; exact bx0, bx1⟩
  case round =>
    clear bx0 bx1 hb0
    obtain ⟨k, hk, rfl, hb, bx, bxr⟩ := hrel
    obtain ⟨wo, rfl⟩ : ∃ wo : World, wo = wr := ⟨_, rfl⟩
    have zo := bxr.in_
    have hSk := HS.out k
    obtain ⟨zb1, zb2⟩ := HB.out k
    by_cases hlt : k < M.length
    · obtain ⟨g, rfl⟩ := HA.out (by omega)
      obtain ⟨q1, q2⟩ := Row.row2 (HR.out.below hb) (k := k) hlt
      obtain ⟨yb1, yb2⟩ := HM.out k
      generalize hz : lessTo M (r1, r2) k = z at *
      generalize hy : M[k]?.getD (0, 0) = y at *
      obtain ⟨z1, z2⟩ := z
      obtain ⟨y1, y2⟩ := y
      simp only at q1 q2 zb1 zb2 yb1 yb2 hSk
      have en := neg64 y2 (by omega)
      have ew : IntKind.i64.wrap (-(y2 : Int)) = -(y2 : Int) := IntWalk.i64_in _ (by omega)
      have hlo := lowS_le y2
      have ea := and64 z2 (lowS y2) (by omega) (by omega)
      have k0 : (0 : Int) ≤ (k : Int) := by omega
      have k1 : (k : Int) < (M.length : Int) := by omega
      have HPL := hide (fun w5 => plus_c (z1, z2) (y1, y2) ⟨by omega, by omega⟩ ⟨by omega, by omega⟩ w5)
      have bxo := Box.new wo 44 #[.int .i64 (y1 : Int), .int .i64 (y2 : Int)]
      have bx' := bx.alloc (.cells #[.int .i64 (y1 : Int), .int .i64 (y2 : Int)] 44)
      have bxr' := bxr.alloc (.cells #[.int .i64 (y1 : Int), .int .i64 (y2 : Int)] 44)
      have hb' := hb.alloc hb.size (.cells #[.int .i64 (y1 : Int), .int .i64 (y2 : Int)] 44)
      have d0 := bxo.cell 0
      have d1 := bxo.cell 1
      have e0 := bx'.cell 0
      have e1 := bx'.cell 1
      by_cases hc : z2 &&& lowS y2 = 0
      · rw [hc] at ea
        rw [if_pos hc] at hSk
        have HSk := hide hSk
        have hz0 : ((0 : Int) != 0) = false := by decide
        clear hSk hc hy hlo
        generalize lowS y2 = lo at *
        go_wp2_with fail
        exact ⟨⟨k + 1, hlt, by go_num, hb', by rw [HSk.out]; exact bx', bxr'⟩, by simp [intOf]; omega⟩
      · rw [if_neg hc] at hSk
        have HSk := hide hSk
        have hnz : (((z2 &&& lowS y2 : Nat) : Int) != 0) = true := by rw [bne_iff_ne]; omega
        clear hSk hc hy hlo
        generalize z2 &&& lowS y2 = an at *
        generalize lowS y2 = lo at *
        have HPL' := hide (fun w5 => show Calls Try.prog 38 #[.agg #[.int .i64 (z1 : Int), .int .i64 (z2 : Int)], .agg #[.int .i64 (y1 : Int), .int .i64 (y2 : Int)]] w5 (Plain (.agg #[.int .i64 ((z1 ^^^ y1 : Nat) : Int), .int .i64 ((z2 ^^^ y2 : Nat) : Int)]) w5) from HPL.out w5)
        have HSk' : Hid (lessTo M (r1, r2) (k + 1) = (z1 ^^^ y1, z2 ^^^ y2)) := HSk.out
        generalize z1 ^^^ y1 = c1 at *
        generalize z2 ^^^ y2 = c2 at *
        clear HPL HSk
        go_wp2_with fail
        refine (HPL'.out _).mono ?_
        rintro e w3 ⟨rfl, b3⟩
        have bx3 := bx'.then b3
        have bxr3 := bxr'.then b3
        have hb3 := below_then hb' hb'.size b3
        obtain ⟨f1, f2, f3, f4, -, -, f7⟩ := end2 bx3 (.int .i64 (c1 : Int)) (.int .i64 (c2 : Int))
        have bxr4 := (bxr3.other (p := ⟨W.heap.size, 0, none⟩) (by simp) (.int .i64 (c1 : Int))).other (p := ⟨W.heap.size, 1, none⟩) (by simp) (.int .i64 (c2 : Int))
        have hb4 := (hb3.setCell (p := ⟨W.heap.size, 0, none⟩) (Nat.le_refl _) (.int .i64 (c1 : Int))).setCell (p := ⟨W.heap.size, 1, none⟩) (Nat.le_refl _) (.int .i64 (c2 : Int))
        clear bx3 bxr3 hb3 b3 bx' bxr' hb' d0 d1 e0 e1 bxo
        go_wp2_with fail
        exact ⟨⟨k + 1, hlt, by go_num, hb4, by rw [HSk'.out]; exact f7, bxr4⟩, by simp [intOf]; omega⟩
    · obtain rfl : k = M.length := by omega
      rw [← HE.out] at bx
      obtain ⟨z1, z2⟩ := fin
      have e0 := bx.cell 0
      have e1 := bx.cell 1
      obtain ⟨f1, f2, f3, f4, f5, f6, -⟩ := end2 bxr (.int .i64 (z1 : Int)) (.int .i64 (z2 : Int))
      clear hSk
      go_wp2_with fail
      refine bodyPost_ret (v := .agg #[.int .i64 (z1 : Int), .int .i64 (z2 : Int)]) (by simp [results, Try.results19, go_sem, f5, f6]) rfl ⟨rfl, ?_⟩
      exact (hb.setCell (by simp) _).setCell (by simp) _

/-- Two rows of the call's own that lie apart. -/
def Apart2 (v u : Value) : Prop := ∀ k, v.ownBlock = some k → u.ownBlock ≠ some k
theorem Apart2.symm {v u : Value} (h : Apart2 v u) : Apart2 u v := fun k hu hv => h k hv hu
theorem Apart2.put {w : World} {base e size n : Nat} {v v' u : Value} {xs : List Value} (h : Apart2 v u) (hu : w.ownsRow base e size u n xs) (ho : v'.ownBlock = v.ownBlock ∨ v'.ownBlock = some w.heap.size) : Apart2 v' u := fun k hk hu' => by
  rcases ho with ho | ho
  · exact h k (ho.symm.trans hk) hu'
  · rw [ho] at hk
    injection hk with hk
    have := (hu.lt k hu').2
    omega
theorem own_apart {w w' : World} {base e size n : Nat} {v u : Value} {xs : List Value} (hu : w.ownsRow base e size u n xs) (hg : w.grownBy w' v.ownBlock) (h : Apart2 v u) : w'.ownsRow base e size u n xs := hu.kept hg (by
  cases hv : u.ownBlock with
  | none => exact .inl rfl
  | some k => exact .inr fun e => h k e.symm hv)
theorem own_set_new {w : World} {base e size n G i : Nat} {v x : Value} {xs : List Value} (h : w.ownsRow base e size v n xs) (hG : ∀ k, v.ownBlock = some k → k < G) : (w.setCell ⟨G, i, none⟩ x).ownsRow base e size v n xs := h.kept (row := some G) ⟨rfl, rfl, rfl, by simp, fun j _ hne => Below.heap_setCell w _ x j (fun e => hne (by rw [e]))⟩ (by
  cases hv : v.ownBlock with
  | none => exact .inl rfl
  | some k =>
    right
    intro e
    injection e with e
    have := hG k hv
    omega)
theorem elem_ps : Elem Try.prog 41 1 8 := Elem.of (z := .int .i64 0) (by kernel_rfl) rfl (by omega)
theorem elem_pr : Elem Try.prog 44 2 16 := Elem.of (z := .agg #[.int .i64 0, .int .i64 0]) (by kernel_rfl) rfl (by omega)
theorem natI_snoc (L : List Nat) (x : Nat) : ints (natI L) ++ [.int .i64 (x : Int)] = ints (natI (L ++ [x])) := by simp [natI, ints]
theorem cells2_snoc (R : List Row2) (p : Row2) : cells2 R ++ [.int .i64 ((p.1 : Nat) : Int), .int .i64 ((p.2 : Nat) : Int)] = cells2 (R ++ [p]) := by simp [cells2]
theorem lead_lt {R : List Row2} {m : Nat} (hR : ∀ k : Nat, (R[k]?.getD (0, 0)).1 < 2 ^ m ∧ (R[k]?.getD (0, 0)).2 < 2 ^ m) : ∀ k, (∀ j : Nat, ((leadTo R k).1[j]?.getD (0, 0)).1 < 2 ^ m ∧ ((leadTo R k).1[j]?.getD (0, 0)).2 < 2 ^ m) ∧ (leadTo R k).1.length ≤ k ∧ (leadTo R k).2.length ≤ k
  | 0 => ⟨fun j => by simp [leadTo]; exact Nat.two_pow_pos m, by simp [leadTo], by simp [leadTo]⟩
  | k + 1 => by
    obtain ⟨h1, h2, h3⟩ := lead_lt hR k
    have hl := less_lt h1 (hR k) (leadTo R k).1.length
    simp only [leadTo]
    split
    · exact ⟨h1, by simp only; omega, by simp; omega⟩
    · refine ⟨fun j => ?_, by simp; omega, by simp only; omega⟩
      simp only
      rcases Nat.lt_trichotomy j (leadTo R k).1.length with hj | hj | hj
      · rw [List.getElem?_append_left hj]; exact h1 j
      · rw [hj, List.getElem?_append_right (Nat.le_refl _), Nat.sub_self]; exact hl
      · rw [List.getElem?_eq_none (by simp; omega)]; exact ⟨Nat.two_pow_pos m, Nat.two_pow_pos m⟩

/-- The rows of leads and the quiet sets, each a row of the call's own. -/
def Leads (M : List Row2) (Q : List Nat) (W : World) (e : Ending) (w' : World) : Prop := ∃ v1 v2, e = .returned (.tuple #[v1, v2]) ∧ w'.ownsRow W.heap.size 44 2 v1 M.length (cells2 M) ∧ w'.ownsRow W.heap.size 41 1 v2 Q.length (ints (natI Q)) ∧ Below W.heap.size W w'
set_option maxHeartbeats 4000000 in
set_option maxRecDepth 100000 in
theorem leadRows_c (w h : Nat) (W : World) (hw : 1 ≤ w ∧ w ≤ 5) (hh : 1 ≤ h ∧ h ≤ 5) (h12 : w * h ≤ 12) :
    Calls Try.prog 18 #[boardV (w : Int) (h : Int)] W (Leads (leadTo (rowsP (litL w h)) (w * h)).1 (leadTo (rowsP (litL w h)) (w * h)).2 W) := by
  have HP := hide (fun w5 => pressRows_c w h w5 hw hh h12)
  have hl := litL_len w h
  have HRL := hide (show (rowsP (litL w h)).length = w * h by simp [rowsP, hl])
  have hRb : ∀ k : Nat, ((rowsP (litL w h))[k]?.getD (0, 0)).1 < 2 ^ 12 ∧ ((rowsP (litL w h))[k]?.getD (0, 0)).2 < 2 ^ 12 := fun k => by
    rcases Nat.lt_or_ge k (w * h) with hk | hk
    · have : (rowsP (litL w h))[k]?.getD (0, 0) = (2 ^ k, (litL w h)[k]?.getD 0) := by
        unfold rowsP
        rw [List.getElem?_map, List.getElem?_range (by omega)]
        rfl
      rw [this]
      exact ⟨Nat.pow_lt_pow_right (by omega) (by omega), set12 h12 (lit_bd hw hh h12 k)⟩
    · rw [List.getElem?_eq_none (by have := HRL.out; omega)]
      exact ⟨by decide, by decide⟩
  have HRb := hide hRb
  have HB := hide (fun k => lead_lt hRb k)
  have H0 := hide (show leadTo (rowsP (litL w h)) 0 = ([], []) from rfl)
  have HS := hide (fun k => show leadTo (rowsP (litL w h)) (k + 1) = if (lessP (leadTo (rowsP (litL w h)) k).1 ((rowsP (litL w h))[k]?.getD (0, 0))).2 = 0 then ((leadTo (rowsP (litL w h)) k).1, (leadTo (rowsP (litL w h)) k).2 ++ [(lessP (leadTo (rowsP (litL w h)) k).1 ((rowsP (litL w h))[k]?.getD (0, 0))).1])
      else ((leadTo (rowsP (litL w h)) k).1 ++ [lessP (leadTo (rowsP (litL w h)) k).1 ((rowsP (litL w h))[k]?.getD (0, 0))], (leadTo (rowsP (litL w h)) k).2) from rfl)
  have hpos : 0 < w * h := Nat.mul_pos (by omega) (by omega)
  have hb0 : Below W.heap.size W (W.alloc (.cells #[.int .i64 (w : Int), .int .i64 (h : Int)] 34)) := (Below.refl _ _).alloc (Nat.le_refl _) _
  clear hl hRb hw hh
  generalize rowsP (litL w h) = R at *
  generalize w * h = n at *
  go_enter Try.func18, Try.ntmps18
  go_wp2_with fail
  refine (HP.out _).mono ?_
  rintro e w2 ⟨v2, rfl, o2, b2⟩
  have hb2 := below_then hb0 hb0.size b2
  obtain ⟨g, c2, rfl, _, _⟩ := own_addr o2 hpos
  have R2 := hide (own_reads o2)
  have z2 := hb2.size
  clear o2 b2 hb0
  go_wp2_with fail
  go_loopw [4, 5, 11] (fun v1 v2 i wr => ∃ k : Nat, k ≤ n ∧ i = .int .i64 (k : Int) ∧ wr.ownsRow w2.heap.size 44 2 v1 (leadTo R k).1.length (cells2 (leadTo R k).1) ∧ wr.ownsRow w2.heap.size 41 1 v2 (leadTo R k).2.length (ints (natI (leadTo R k).2)) ∧ Apart2 v1 v2 ∧ Below w2.heap.size w2 wr) (fun _ _ i _ => n - (intOf i).toNat)
  case atStart => exact ⟨0, Nat.zero_le _, rfl, by rw [H0.out]; exact World.ownsRow_nil _ _ _ _, by rw [H0.out]; exact World.ownsRow_nil _ _ _ _, (fun k hk => by cases hk), Below.refl _ _⟩
  case round =>
    obtain ⟨k, hk, rfl, own1, own2, hap, hb⟩ := hrel
    obtain ⟨wo, rfl⟩ : ∃ wo : World, wo = wr := ⟨_, rfl⟩
    by_cases hlt : k < n
    · obtain ⟨q1, q2⟩ := Row.row2 (R2.out.below hb) (k := k) (by rw [HRL.out]; exact hlt)
      obtain ⟨mb, ml, ql⟩ := HB.out k
      have rb := HRb.out k
      have hSk := HS.out k
      generalize hM : (leadTo R k).1 = M at *
      generalize hQ : (leadTo R k).2 = Q at *
      generalize hy : R[k]?.getD (0, 0) = y at *
      have hfb := less_lt mb rb M.length
      have HLC := hide (fun (A : Option Addr) (c : Nat) (w5 : World) (hr : Row w5 A (cells2 M)) (hA : M.length ≠ 0 → ∃ g, A = some ⟨g, 0, none⟩) => less_c A c M y w5 hr hA mb (by omega) rb)
      have hE : lessTo M y M.length = lessP M y := rfl
      rw [hE] at hfb
      generalize hf : lessP M y = f at *
      obtain ⟨y1, y2⟩ := y
      obtain ⟨f1, f2⟩ := f
      simp only at q1 q2 hSk hfb
      have HM := hide hM
      have HQ := hide hQ
      obtain ⟨A1, c1, rfl, _, _, row1, hA1⟩ := own_row own1
      have hA1' : M.length ≠ 0 → ∃ g, A1 = some ⟨g, 0, none⟩ := fun h0 => by
        obtain ⟨g', c', e', _⟩ := own_addr own1 (by omega)
        injection e' with e1 e2 e3
        exact ⟨g', e1⟩
      have row1' := hide (row1.alloc (.cells #[.int .i64 (y1 : Int), .int .i64 (y2 : Int)] 44))
      have HA1 := hide hA1'
      have l1 : ∀ j, (Value.slice A1 M.length c1).ownBlock = some j → j < wo.heap.size := fun j hj => (own1.lt j hj).2
      obtain ⟨A2, c2', rfl, _⟩ := own_row own2
      have l2 : ∀ j, (Value.slice A2 Q.length c2').ownBlock = some j → j < wo.heap.size := fun j hj => (own2.lt j hj).2
      have L1 := hide l1
      have L2 := hide l2
      have bxo := Box.new wo 44 #[.int .i64 (y1 : Int), .int .i64 (y2 : Int)]
      have own1 := own1.alloc (.cells #[.int .i64 (y1 : Int), .int .i64 (y2 : Int)] 44)
      have own2 := own2.alloc (.cells #[.int .i64 (y1 : Int), .int .i64 (y2 : Int)] 44)
      have hb' := hb.alloc hb.size (.cells #[.int .i64 (y1 : Int), .int .i64 (y2 : Int)] 44)
      have zo := hb.size
      obtain ⟨G, hG⟩ : ∃ G, wo.heap.size = G := ⟨_, rfl⟩
      rw [hG] at bxo L1 L2 zo
      have HG := hide hG
      have k0 : (0 : Int) ≤ (k : Int) := by omega
      have k1 : (k : Int) < (n : Int) := by omega
      have d0 := bxo.cell 0
      have d1 := bxo.cell 1
      clear hM hQ hy hf hE hA1 hA1' row1 l1 l2 hG hb mb rb
      go_wp2_with fail
      refine (HLC.out _ _ _ row1'.out HA1.out).mono ?_
      rintro e w3 ⟨rfl, b3⟩
      rw [HG.out]
      have bx3 := bxo.then b3
      have own1 := own_below own1 b3
      have own2 := own_below own2 b3
      have hb3 := below_then hb' hb'.size b3
      obtain ⟨e1, e2, e3, e4, -, -, e7⟩ := end2 bx3 (.int .i64 (f1 : Int)) (.int .i64 (f2 : Int))
      have own1 := own_set_new (G := G) (i := 1) (x := .int .i64 (f2 : Int)) (own_set_new (G := G) (i := 0) (x := .int .i64 (f1 : Int)) own1 L1.out) L1.out
      have own2 := own_set_new (G := G) (i := 1) (x := .int .i64 (f2 : Int)) (own_set_new (G := G) (i := 0) (x := .int .i64 (f1 : Int)) own2 L2.out) L2.out
      have hb4 := (hb3.setCell (p := ⟨G, 0, none⟩) zo (.int .i64 (f1 : Int))).setCell (p := ⟨G, 1, none⟩) zo (.int .i64 (f2 : Int))
      have g0 := e7.cell 0
      have g1 := e7.cell 1
      clear bxo bx3 b3 hb3 hb' d0 d1 e7
      by_cases h0 : f2 = 0
      · subst h0
        rw [if_pos rfl] at hSk
        have HT1 := hide (show (leadTo R (k + 1)).1 = M by rw [hSk])
        have HT2 := hide (show (leadTo R (k + 1)).2 = Q ++ [f1] by rw [hSk])
        have OW1 := hide (own1.alloc (.cells #[.int .i64 (f1 : Int)] 41))
        have OW2 := hide (own2.alloc (.cells #[.int .i64 (f1 : Int)] 41))
        have HB4 := hide (hb4.alloc hb4.size (.cells #[.int .i64 (f1 : Int)] 41))
        have hz0 : (((0 : Nat) : Int) == 0) = true := rfl
        clear hSk own1 own2 hb4
        go_wp2_with ((at_builtin; refine put_own rfl (.tmp 21) (.tmp 24) rfl Try.underlying38 elem_ps rfl OW2.out rfl (m := 1) (news := [.int .i64 (f1 : Int)]) rfl (row_new _ _ _ (by simp)) (by simp [Value.oneCell']) (by omega) (by omega) HB4.out.size ?_; intro v3 w5 own5 hg5 ho5))
        rw [natI_snoc] at own5
        have X1 := hide (own_apart OW1.out hg5 hap.symm)
        have X3 := hide (Apart2.put hap.symm OW1.out ho5).symm
        have X2 := hide (below_grown HB4.out HB4.out.size OW2.out (Nat.le_refl _) hg5)
        exact ⟨⟨k + 1, hlt, by go_num, by rw [HT1.out]; exact X1.out, by rw [HT2.out]; simpa using own5, X3.out, X2.out⟩, by simp [intOf]; omega⟩
      · rw [if_neg h0] at hSk
        have HT1 := hide (show (leadTo R (k + 1)).1 = M ++ [(f1, f2)] by rw [hSk])
        have HT2 := hide (show (leadTo R (k + 1)).2 = Q by rw [hSk])
        have OW1 := hide (own1.alloc (.cells #[.int .i64 (f1 : Int), .int .i64 (f2 : Int)] 44))
        have OW2 := hide (own2.alloc (.cells #[.int .i64 (f1 : Int), .int .i64 (f2 : Int)] 44))
        have HB4 := hide (hb4.alloc hb4.size (.cells #[.int .i64 (f1 : Int), .int .i64 (f2 : Int)] 44))
        have hz0 : ((f2 : Int) == 0) = false := by rw [beq_eq_false_iff_ne]; omega
        clear hSk own1 own2 hb4 h0
        go_wp2_with ((at_builtin; refine put_own rfl (.tmp 26) (.tmp 28) rfl Try.underlying37 elem_pr rfl OW1.out rfl (m := 1) (news := [.int .i64 (f1 : Int), .int .i64 (f2 : Int)]) rfl (row_new _ _ _ (by simp)) (by simp [Value.oneCell']) (by omega) (by omega) HB4.out.size ?_; intro v3 w5 own5 hg5 ho5))
        have own5 : w5.ownsRow w2.heap.size 44 2 v3 (M.length + 1) (cells2 (M ++ [(f1, f2)])) := by rw [← cells2_snoc]; exact own5
        have X1 := hide (own_apart OW2.out hg5 hap)
        have X3 := hide (Apart2.put hap OW2.out ho5)
        have X2 := hide (below_grown HB4.out HB4.out.size OW1.out (Nat.le_refl _) hg5)
        exact ⟨⟨k + 1, hlt, by go_num, by rw [HT1.out]; simpa using own5, by rw [HT2.out]; exact X1.out, X3.out, X2.out⟩, by simp [intOf]; omega⟩
    · obtain rfl : k = n := by omega
      go_wp2_with fail
      go_ret2
      exact ⟨_, _, rfl, own_mono own1 z2, own_mono own2 z2, below_then hb2 hb2.size hb⟩
end Go.Proofs.Ytijidecdokbmnac
