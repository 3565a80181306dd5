
/-
  Covers of boards: the model's spread.
-/
import Derived.Test.YtijidecdokbmnadTileL
import Derived.Test.YtijidecdokbmnadTileO
namespace Go.Proofs.Ytijidecdokbmnad
open Go.RowKit
set_option linter.unusedVariables false

/-- Natural numbers as cells. -/
def natV (L : List Nat) : List Int := L.map fun (x : Nat) => (x : Int)
theorem natV_len (L : List Nat) : (natV L).length = L.length := by simp [natV]
theorem natV_at (L : List Nat) (k : Nat) : (natV L)[k]?.getD 0 = ((L[k]?.getD 0 : Nat) : Int) := by
  rw [natV, List.getElem?_map]
  cases L[k]? <;> rfl
/-- A row of natural numbers of the call's own: its cells, and one of them written. -/
theorem own_nat {W : World} {base g n c : Nat} {L : List Nat} (h : W.ownsRow base 3 1 (.slice (some ⟨g, 0, none⟩) n c) n (ints (natV L))) {k : Nat} (hk : k < n) (b : Nat) :
    W.cell? ⟨g, k, none⟩ = some (.int .i64 ((L[k]?.getD 0 : Nat) : Int)) ∧ W.frozen? ⟨g, k, none⟩ = false ∧ (W.setCell ⟨g, k, none⟩ (.int .i64 (b : Int))).ownsRow base 3 1 (.slice (some ⟨g, 0, none⟩) n c) n (ints (natV (L.set k b))) ∧ W.grownBy (W.setCell ⟨g, k, none⟩ (.int .i64 (b : Int))) (some g) := by
  have hl : L.length = n := by have := h.1; simpa [natV] using this
  have hc := h.cellAt k (by omega)
  obtain ⟨o, gr⟩ := h.stored k (.int .i64 (b : Int))
  refine ⟨?_, h.frozenAt k, ?_, gr⟩
  · rw [hc]; simp [natV, List.getElem?_eq_getElem (show k < L.length by omega)]
  · rw [show (ints (natV L)).set k (.int .i64 (b : Int)) = ints (natV (L.set k b)) by simp [natV, ints, List.map_set]] at o
    exact o
/-- The ways added. -/
def addT (w : Nat) (g : Nat → Bool) (s j d x : Nat) (L : List Nat) : List Nat := (List.range L.length).map fun t => L[t]?.getD 0 + x * spr w g s (ind t) j d
theorem addT_len (w : Nat) (g : Nat → Bool) (s j d x : Nat) (L : List Nat) : (addT w g s j d x L).length = L.length := by simp [addT]
theorem addT_at {w : Nat} {g : Nat → Bool} {s j d x : Nat} {L : List Nat} {t : Nat} (ht : t < L.length) : (addT w g s j d x L)[t]?.getD 0 = L[t]?.getD 0 + x * spr w g s (ind t) j d := by
  simp [addT, List.getElem?_map, List.getElem?_range ht]
theorem addT_same {w : Nat} {g : Nat → Bool} {s j d x : Nat} {L L' : List Nat} (hl : L'.length = L.length) (h : ∀ t, t < L.length → L'[t]?.getD 0 = L[t]?.getD 0 + x * spr w g s (ind t) j d) : L' = addT w g s j d x L := by
  apply List.ext_getElem
  · rw [addT_len, hl]
  · intro t h1 h2
    have := h t (by omega)
    rw [List.getElem?_eq_getElem h1, Option.getD_some] at this
    rw [this]
    simp [addT]
def Spread (base g c n : Nat) (L' : List Nat) (W : World) (e : Ending) (w' : World) : Prop := e = .returned (.tuple #[]) ∧ w'.ownsRow base 3 1 (.slice (some ⟨g, 0, none⟩) n c) n (ints (natV L')) ∧ W.grownBy w' (some g)
/-- What may be added. -/
def RoomT (L : List Nat) (x j : Nat) : Prop := ∀ t, t < L.length → L[t]?.getD 0 + x * 2 ^ j ≤ 4000000000000000000

theorem spr_step (w : Nat) (g : Nat → Bool) (s : Nat) (next : Nat → Nat) (j d : Nat) : spr w g s next (j + 1) d =
    if g (w - (j + 1)) then (if bitN s (w - (j + 1)) = 0 then spr w g s next j d else 0) else if bitN s (w - (j + 1)) = 1 then spr w g s next j d else
      spr w g s next j (d + 2 ^ (w - (j + 1))) + if decide (1 ≤ j) && !g (w - (j + 1) + 1) && bitN s (w - (j + 1) + 1) == 0 then spr w g s next (j - 1) d else 0 := by
  cases j with
  | zero =>
    rw [show (0 : Nat) + 1 = 1 from rfl, spr_one, decide_eq_false (show ¬ 1 ≤ 0 by omega)]
    simp only [Bool.false_and, Bool.false_eq_true, if_false, Nat.add_zero]
    rfl
  | succ j =>
    rw [spr_two, decide_eq_true (show 1 ≤ j + 1 by omega), Bool.true_and]
    rfl

set_option maxHeartbeats 4000000 in
set_option maxRecDepth 100000 in
theorem spread_c (w : Nat) (hw : 1 ≤ w ∧ w ≤ 5) (gl : List Bool) (hgl : gl.length = w) (s : Nat) (hs : s < 2 ^ w) (x : Nat) (A : Option Addr) (ca base g c : Nat) (hA : ∀ ad, A = some ad → ad.block ≠ g) : ∀ (j : Nat), j ≤ w → ∀ (d : Nat), d < 2 ^ (w - j) → ∀ (L : List Nat) (W : World), W.ownsRow base 3 1 (.slice (some ⟨g, 0, none⟩) (2 ^ w) c) (2 ^ w) (ints (natV L)) → Row W A (boolsV gl) → RoomT L x j →
    Calls Try.prog 14 #[.int .i64 (w : Int), .slice A w ca, .int .i64 (s : Int), .int .i64 ((w - j : Nat) : Int), .int .i64 (d : Int), .int .i64 (x : Int), .slice (some ⟨g, 0, none⟩) (2 ^ w) c] W (Spread base g c (2 ^ w) (addT w (fnB gl) s j d x L) W) := by
  obtain ⟨w1, w5⟩ := hw
  have p32 : 2 ^ w ≤ 32 := Nat.le_trans (Nat.pow_le_pow_right (by omega) w5) (by decide)
  have HBt := hide (fun (i : Nat) (hi : i ≤ 9) w5 => specBit9_c s i (by omega) hi w5)
  have HP := hide (fun (i : Nat) (hi : i ≤ 9) w5 => specPower9_c i hi w5)
  have HAd := hide hA
  clear hA
  intro j
  induction j using Nat.strongRecOn with
  | _ j ih =>
    intro hj d hd L W hown hr hroom
    have hL : L.length = 2 ^ w := by have := hown.1; simpa [natV] using this
    have IH := hide ih
    clear ih
    match j, hj, hd, hroom, IH with
    | 0, hj, hd, hroom, IH =>
      clear IH
      rw [Nat.sub_zero] at hd ⊢
      have hx := hroom d (by omega)
      have HE := hide (show L.set d (L[d]?.getD 0 + x) = addT w (fnB gl) s 0 d x L from addT_same (by simp) (fun t ht => by
        show (L.set d (L[d]?.getD 0 + x))[t]?.getD 0 = L[t]?.getD 0 + x * ind t d
        unfold ind
        by_cases e : d = t
        · subst e
          rw [List.getElem?_set_self (by omega), if_pos rfl]
          simp
        · rw [List.getElem?_set_ne e, if_neg e]
          simp))
      obtain ⟨c1, c2, c3, c4⟩ := own_nat hown (k := d) hd (L[d]?.getD 0 + x)
      rw [HE.out] at c3
      have C3 := hide c3
      have C4 := hide c4
      rw [show ((L[d]?.getD 0 + x : Nat) : Int) = ((L[d]?.getD 0 : Nat) : Int) + (x : Int) by push_cast; rfl] at C3 C4
      clear c3 c4 hroom hr
      generalize L[d]?.getD 0 = y at *
      have e1 : IntKind.i64.wrap ((y : Int) + (x : Int)) = (y : Int) + (x : Int) := IntWalk.i64_in _ (by omega)
      have hdi : (d : Int) < ((2 ^ w : Nat) : Int) := by omega
      generalize (2 ^ w : Nat) = P at *
      go_enter Try.func14, Try.ntmps14
      go_wp2_with fail
      refine bodyPost_ret (results_none rfl _ _ _) rfl ⟨rfl, C3.out, C4.out⟩
    | j + 1, hj, hd, hroom, IH =>
      obtain ⟨cc, hcc⟩ : ∃ cc, w - (j + 1) = cc := ⟨_, rfl⟩
      have hcj : w - j = cc + 1 := by omega
      have hcw : cc < w := by omega
      have p1 : 2 ^ (w - j) = 2 * 2 ^ (w - (j + 1)) := by rw [← Nat.pow_succ']; congr 1; omega
      have hd1 : d < 2 ^ (w - j) := by omega
      have hd2 : d + 2 ^ cc < 2 ^ (w - j) := by rw [← hcc]; omega
      have hpj : 2 ^ (j + 1) = 2 * 2 ^ j := Nat.pow_succ'
      have hroom1 : RoomT L x j := fun t ht => by
        have := hroom t ht
        have h2 : x * 2 ^ j ≤ x * 2 ^ (j + 1) := Nat.mul_le_mul_left x (by omega)
        omega
      obtain ⟨ad, rfl, hca⟩ := hr.bool (k := cc) (by omega)
      have hne := HAd.out ad rfl
      have HB := hide (fun w5 => HBt.out cc (by omega) w5)
      have IHj := hide (fun (d : Nat) (hd : d < 2 ^ (w - j)) (L : List Nat) (W : World) (ho : W.ownsRow base 3 1 (.slice (some ⟨g, 0, none⟩) (2 ^ w) c) (2 ^ w) (ints (natV L))) (hr : Row W (some ad) (boolsV gl)) (hm : RoomT L x j) => IH.out j (by omega) (by omega) d hd L W ho hr hm)
      rw [hcj] at IHj
      rw [hcj] at hd1 hd2
      have HSt := hide (fun t => spr_step w (fnB gl) s (ind t) j d)
      rw [hcc] at HSt ⊢
      have hcc0 : ((cc : Int) == (w : Int)) = false := by rw [beq_eq_false_iff_ne]; omega
      cases hg : fnB gl cc with
      | true =>
        rw [hg] at hca
        rcases bitN_two s cc with hb | hb
        · rw [hb] at HB
          have HE := hide (show addT w (fnB gl) s j d x L = addT w (fnB gl) s (j + 1) d x L from addT_same (addT_len ..) (fun t ht => by rw [addT_at ht, HSt.out t, hg, hb]; simp))
          have HC := hide (IHj.out d hd1 L W hown hr hroom1)
          rw [HE.out] at HC
          clear HSt HE hb hg IHj IH hroom hroom1 hd hd1 hd2 p1 hpj
          generalize addT w (fnB gl) s (j + 1) d x L = L' at *
          generalize (2 ^ w : Nat) = P at *
          go_enter Try.func14, Try.ntmps14
          go_wp2_with fail
          refine (HB.out _).mono ?_
          rintro e w1 ⟨rfl, rfl⟩
          go_wp2_with fail
          refine HC.out.mono ?_
          rintro e w2 ⟨rfl, o2, g2⟩
          go_wp2_with fail
          exact bodyPost_ret (results_none rfl _ _ _) rfl ⟨rfl, o2, g2⟩
        · rw [hb] at HB
          have HE := hide (show L = addT w (fnB gl) s (j + 1) d x L from addT_same rfl (fun t ht => by rw [HSt.out t, hg, hb]; simp))
          rw [← HE.out]
          clear HSt HE hb hg IHj IH hroom hroom1 hd hd1 hd2 p1 hpj
          generalize (2 ^ w : Nat) = P at *
          go_enter Try.func14, Try.ntmps14
          go_wp2_with fail
          refine (HB.out _).mono ?_
          rintro e w1 ⟨rfl, rfl⟩
          go_wp2_with fail
          exact bodyPost_ret (results_none rfl _ _ _) rfl ⟨rfl, hown, World.grownBy.refl _ _⟩
      | false =>
        rw [hg] at hca
        rcases bitN_two s cc with hb | hb
        · rw [hb] at HB
          have HPc := hide (fun w5 => HP.out cc (by omega) w5)
          have HC := hide (IHj.out (d + 2 ^ cc) hd2 L W hown hr hroom1)
          have hpb := pow9 (n := cc) (by omega)
          have edp : IntKind.i64.wrap ((d : Int) + ((2 ^ cc : Nat) : Int)) = ((d + 2 ^ cc : Nat) : Int) := (IntWalk.i64_in _ (by omega)).trans (by push_cast; rfl)
          by_cases hr1 : cc + 1 < w
          · obtain ⟨i, rfl⟩ : ∃ i, j = i + 1 := ⟨j - 1, by omega⟩
            have hci : w - i = cc + 2 := by omega
            have hr1i : (cc : Int) + 1 < (w : Int) := by omega
            cases hx1 : fnB gl (cc + 1) with
            | true =>
              have HE := hide (show addT w (fnB gl) s (i + 1) (d + 2 ^ cc) x L = addT w (fnB gl) s (i + 1 + 1) d x L from addT_same (addT_len ..) (fun t ht => by rw [addT_at ht, HSt.out t, hg, hb, hx1]; simp))
              rw [HE.out] at HC
              clear HSt HE hb hg IHj IH hroom hroom1 hd hd1 hd2 p1 hpj
              generalize addT w (fnB gl) s (i + 1 + 1) d x L = L' at *
              generalize (2 ^ cc : Nat) = Q at *
              generalize (2 ^ w : Nat) = P at *
              go_enter Try.func14, Try.ntmps14
              go_wp2_with fail
              refine (HB.out _).mono ?_
              rintro e w1 ⟨rfl, rfl⟩
              go_wp2_with fail
              refine (HPc.out _).mono ?_
              rintro e w1 ⟨rfl, rfl⟩
              go_wp2_with fail
              refine HC.out.mono ?_
              rintro e w2 ⟨rfl, o2, g2⟩
              have hr2 := hr.grown g2 (fun a' e' => by injection e' with e'; subst e'; intro h'; injection h' with h'; exact hne h'.symm)
              obtain ⟨_, ⟨rfl⟩, hc2⟩ := hr2.bool (k := cc + 1) (by omega)
              unfold Addr.add at hc2
              rw [if_neg (by omega), hx1] at hc2
              go_wp2_with fail
              exact bodyPost_ret (results_none rfl _ _ _) rfl ⟨rfl, o2, g2⟩
            | false =>
              have HB1 := hide (fun w5 => HBt.out (cc + 1) (by omega) w5)
              rcases bitN_two s (cc + 1) with hb1 | hb1
              · rw [hb1] at HB1
                have hd3 : d < 2 ^ (w - i) := Nat.lt_of_lt_of_le hd1 (Nat.pow_le_pow_right (by omega) (by omega))
                have hpi : 2 ^ (i + 1) = 2 * 2 ^ i := Nat.pow_succ'
                have IHi := hide (fun (L : List Nat) (W : World) (ho : W.ownsRow base 3 1 (.slice (some ⟨g, 0, none⟩) (2 ^ w) c) (2 ^ w) (ints (natV L))) (hr : Row W (some ad) (boolsV gl)) (hm : RoomT L x i) => IH.out i (by omega) (by omega) d hd3 L W ho hr hm)
                rw [hci] at IHi
                have hroom2 : RoomT (addT w (fnB gl) s (i + 1) (d + 2 ^ cc) x L) x i := fun t ht => by
                  rw [addT_len] at ht
                  rw [addT_at ht]
                  have h1 := hroom t ht
                  have h2 : x * spr w (fnB gl) s (ind t) (i + 1) (d + 2 ^ cc) ≤ x * 2 ^ (i + 1) := Nat.mul_le_mul_left x (spr_bd _ _ _ _ _)
                  have h3 : x * 2 ^ (i + 1 + 1) = 2 * (x * 2 ^ (i + 1)) := by rw [hpj]; rw [Nat.mul_left_comm]
                  have h4 : x * 2 ^ (i + 1) = 2 * (x * 2 ^ i) := by rw [hpi]; rw [Nat.mul_left_comm]
                  omega
                have HE := hide (show addT w (fnB gl) s i d x (addT w (fnB gl) s (i + 1) (d + 2 ^ cc) x L) = addT w (fnB gl) s (i + 1 + 1) d x L from addT_same (by rw [addT_len, addT_len]) (fun t ht => by rw [addT_at (by rw [addT_len]; exact ht), addT_at ht, HSt.out t, hg, hb, hx1, hb1]; simp [Nat.mul_add, Nat.add_assoc]))
                have IHi := hide (fun W ho hr => IHi.out (addT w (fnB gl) s (i + 1) (d + 2 ^ cc) x L) W ho hr hroom2)
                rw [HE.out] at IHi
                clear HSt HE hb hg IHj IH hroom hroom1 hroom2 hd hd1 hd2 hd3 p1 hpj hpi hb1
                generalize addT w (fnB gl) s (i + 1 + 1) d x L = L2 at *
                generalize addT w (fnB gl) s (i + 1) (d + 2 ^ cc) x L = L' at *
                generalize (2 ^ cc : Nat) = Q at *
                generalize (2 ^ w : Nat) = P at *
                go_enter Try.func14, Try.ntmps14
                go_wp2_with fail
                refine (HB.out _).mono ?_
                rintro e w1 ⟨rfl, rfl⟩
                go_wp2_with fail
                refine (HPc.out _).mono ?_
                rintro e w1 ⟨rfl, rfl⟩
                go_wp2_with fail
                refine HC.out.mono ?_
                rintro e w2 ⟨rfl, o2, g2⟩
                have hr2 := hr.grown g2 (fun a' e' => by injection e' with e'; subst e'; intro h'; injection h' with h'; exact hne h'.symm)
                obtain ⟨_, ⟨rfl⟩, hc2⟩ := hr2.bool (k := cc + 1) (by omega)
                unfold Addr.add at hc2
                rw [if_neg (by omega), hx1] at hc2
                go_wp2_with fail
                refine (HB1.out _).mono ?_
                rintro e w1 ⟨rfl, rfl⟩
                have I2 := hide (IHi.out w2 o2 hr2)
                have G2 := hide g2
                clear IHi o2 g2 HC
                go_wp2_with fail
                refine I2.out.mono ?_
                rintro e w3 ⟨rfl, o3, g3⟩
                go_wp2_with fail
                exact bodyPost_ret (results_none rfl _ _ _) rfl ⟨rfl, o3, G2.out.trans g3⟩
              · rw [hb1] at HB1
                have HE := hide (show addT w (fnB gl) s (i + 1) (d + 2 ^ cc) x L = addT w (fnB gl) s (i + 1 + 1) d x L from addT_same (addT_len ..) (fun t ht => by rw [addT_at ht, HSt.out t, hg, hb, hx1, hb1]; simp))
                rw [HE.out] at HC
                clear HSt HE hb hg IHj IH hroom hroom1 hd hd1 hd2 p1 hpj hb1
                generalize addT w (fnB gl) s (i + 1 + 1) d x L = L' at *
                generalize (2 ^ cc : Nat) = Q at *
                generalize (2 ^ w : Nat) = P at *
                go_enter Try.func14, Try.ntmps14
                go_wp2_with fail
                refine (HB.out _).mono ?_
                rintro e w1 ⟨rfl, rfl⟩
                go_wp2_with fail
                refine (HPc.out _).mono ?_
                rintro e w1 ⟨rfl, rfl⟩
                go_wp2_with fail
                refine HC.out.mono ?_
                rintro e w2 ⟨rfl, o2, g2⟩
                have hr2 := hr.grown g2 (fun a' e' => by injection e' with e'; subst e'; intro h'; injection h' with h'; exact hne h'.symm)
                obtain ⟨_, ⟨rfl⟩, hc2⟩ := hr2.bool (k := cc + 1) (by omega)
                unfold Addr.add at hc2
                rw [if_neg (by omega), hx1] at hc2
                go_wp2_with fail
                refine (HB1.out _).mono ?_
                rintro e w1 ⟨rfl, rfl⟩
                go_wp2_with fail
                exact bodyPost_ret (results_none rfl _ _ _) rfl ⟨rfl, o2, g2⟩
          · obtain rfl : j = 0 := by omega
            have hr1i : ¬ ((cc : Int) + 1 < (w : Int)) := by omega
            have HE := hide (show addT w (fnB gl) s 0 (d + 2 ^ cc) x L = addT w (fnB gl) s (0 + 1) d x L from addT_same (addT_len ..) (fun t ht => by rw [addT_at ht, HSt.out t, hg, hb]; simp))
            rw [HE.out] at HC
            clear HSt HE hb hg IHj IH hroom hroom1 hd hd1 hd2 p1 hpj
            generalize addT w (fnB gl) s (0 + 1) d x L = L' at *
            generalize (2 ^ cc : Nat) = Q at *
            generalize (2 ^ w : Nat) = P at *
            go_enter Try.func14, Try.ntmps14
            go_wp2_with fail
            refine (HB.out _).mono ?_
            rintro e w1 ⟨rfl, rfl⟩
            go_wp2_with fail
            refine (HPc.out _).mono ?_
            rintro e w1 ⟨rfl, rfl⟩
            go_wp2_with fail
            refine HC.out.mono ?_
            rintro e w2 ⟨rfl, o2, g2⟩
            go_wp2_with fail
            exact bodyPost_ret (results_none rfl _ _ _) rfl ⟨rfl, o2, g2⟩
        · rw [hb] at HB
          have HE := hide (show addT w (fnB gl) s j d x L = addT w (fnB gl) s (j + 1) d x L from addT_same (addT_len ..) (fun t ht => by rw [addT_at ht, HSt.out t, hg, hb]; simp))
          have HC := hide (IHj.out d hd1 L W hown hr hroom1)
          rw [HE.out] at HC
          clear HSt HE hb hg IHj IH hroom hroom1 hd hd1 hd2 p1 hpj
          generalize addT w (fnB gl) s (j + 1) d x L = L' at *
          generalize (2 ^ w : Nat) = P at *
          go_enter Try.func14, Try.ntmps14
          go_wp2_with fail
          refine (HB.out _).mono ?_
          rintro e w1 ⟨rfl, rfl⟩
          go_wp2_with fail
          refine HC.out.mono ?_
          rintro e w2 ⟨rfl, o2, g2⟩
          go_wp2_with fail
          exact bodyPost_ret (results_none rfl _ _ _) rfl ⟨rfl, o2, g2⟩
end Go.Proofs.Ytijidecdokbmnad
