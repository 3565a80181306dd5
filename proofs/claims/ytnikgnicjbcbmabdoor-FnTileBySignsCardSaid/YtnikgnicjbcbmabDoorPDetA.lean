
/-
  The program's determinant of signs: byColour, signOf.
-/
import Derived.Test.YtnikgnicjbcbmabDoorMoveG
import Derived.Test.YtnikgnicjbcbmabDoorDetP
import Derived.Test.YtnikgnicjbcbmabDoorPTileB
import Derived.Test.YtnikgnicjbcbmabDoorTileY
import Derived.Test.YtnikgnicjbcbmabDoorOwnWords
import Derived.Deep.RegionHeld3
namespace Go.Proofs.YtnikgnicjbcbmabDoor
open Go.RowKit
set_option linter.unusedVariables false

/-- Two rows of the call's own that lie apart. -/
def Apart2 (v u : Value) : Prop := ∀ k, v.ownBlock = some k → u.ownBlock ≠ some k
theorem Apart2.symm {v u : Value} (h : Apart2 v u) : Apart2 u v := fun k hu hv => h k hv hu
theorem Apart2.put {w : World} {base e size n : Nat} {v v' u : Value} {xs : List Value} (h : Apart2 v u) (hu : w.ownsRow base e size u n xs) (ho : v'.ownBlock = v.ownBlock ∨ v'.ownBlock = some w.heap.size) : Apart2 v' u := fun k hk hu' => by
  rcases ho with ho | ho
  · exact h k (ho.symm.trans hk) hu'
  · rw [ho] at hk
    injection hk with hk
    have := (hu.lt k hu').2
    omega
theorem own_apart {w w' : World} {base e size n : Nat} {v u : Value} {xs : List Value} (hu : w.ownsRow base e size u n xs) (hg : w.grownBy w' v.ownBlock) (h : Apart2 v u) : w'.ownsRow base e size u n xs := hu.kept hg (by
  cases hv : u.ownBlock with
  | none => exact .inl rfl
  | some k => exact .inr fun e => h k e.symm hv)

/-- Numbers as whole numbers. -/
def nI (l : List Nat) : List Int := l.map fun (x : Nat) => (x : Int)
theorem nI_len (l : List Nat) : (nI l).length = l.length := by simp [nI]
theorem nI_snoc (l : List Nat) (x : Nat) : ints (nI (l ++ [x])) = ints (nI l) ++ [.int .i64 (x : Int)] := by simp [nI, ints]
theorem evens_le (w a : Nat) : (evens w a).length ≤ a := by
  have := List.length_filter_le (fun a => (a / w + a % w) % 2 == 0) (List.range a)
  simpa [evens] using this
theorem odds_le (w a : Nat) : (odds w a).length ≤ a := by
  have := List.length_filter_le (fun a => !((a / w + a % w) % 2 == 0)) (List.range a)
  simpa [odds] using this
def TwoRows (xs ys : List Nat) (w : World) (e : Ending) (w' : World) : Prop := ∃ v u, e = .returned (.tuple #[v, u]) ∧ w'.ownsRow w.heap.size 3 1 v xs.length (ints (nI xs)) ∧ w'.ownsRow w.heap.size 3 1 u ys.length (ints (nI ys)) ∧ Apart2 v u ∧ Below w.heap.size w w'

set_option maxHeartbeats 2000000 in
set_option maxRecDepth 100000 in
theorem byColour_c (w h : Nat) (W : World) (hw : 1 ≤ w ∧ w ≤ 5) (hh : 1 ≤ h ∧ h ≤ 5) :
    Calls Tryd.prog 13 #[boardV (w : Int) (h : Int)] W (TwoRows (evens w (w * h)) (odds w (w * h)) W) := by
  have h25 : w * h ≤ 25 := Nat.mul_le_mul hw.2 hh.2
  have HZ := hide (fun w6 => by
    have := size_c (w : Int) (h : Int) w6 (by omega) (by omega) (by omega) (by omega)
    rw [← Int.natCast_mul] at this
    exact this)
  have HE := hide (fun a => evens_snoc w a)
  have HO := hide (fun a => odds_snoc w a)
  have HEL := hide (fun a => evens_le w a)
  have HOL := hide (fun a => odds_le w a)
  have w0 : (w : Int) ≠ 0 := by omega
  have w00 : ¬ w = 0 := by omega
  have bx := Box.new W 32 #[.int .i64 (w : Int), .int .i64 (h : Int)]
  generalize w * h = n at *
  go_enter Tryd.func13, Tryd.ntmps13
  go_wp2_with fail
  refine (HZ.out _).mono ?_
  rintro e w1 ⟨rfl, b1⟩
  have bx := bx.then b1
  have b1 := below_then ((Below.refl W.heap.size W).alloc (Nat.le_refl _) _) (by simp) b1
  have zb := bx.in_
  go_wp2_with fail
  go_loopw [4, 5, 9] (fun v u i wr => ∃ k : Nat, k ≤ n ∧ i = .int .i64 (k : Int) ∧ wr.ownsRow (W.heap.size + 1) 3 1 v (evens w k).length (ints (nI (evens w k))) ∧ wr.ownsRow (W.heap.size + 1) 3 1 u (odds w k).length (ints (nI (odds w k))) ∧ Apart2 v u ∧ Below W.heap.size W wr ∧ Box wr W.heap.size 32 #[.int .i64 (w : Int), .int .i64 (h : Int)]) (fun _ _ i _ => n - (intOf i).toNat)
  case atStart => exact ⟨0, Nat.zero_le _, rfl, World.ownsRow_nil _ _ _ _, World.ownsRow_nil _ _ _ _, (fun k h => by cases h), b1, bx⟩
  case round =>
    obtain ⟨k, hk, rfl, ov, ou, hap, hb, bx⟩ := hrel
    obtain ⟨wo, rfl⟩ : ∃ wo : World, wo = wr := ⟨_, rfl⟩
    have z := hb.size
    have zx := bx.in_
    have c0 := bx.cell 0
    have c1 := bx.cell 1
    by_cases hlt : k < n
    · have t1 : Int.tdiv (k : Int) (w : Int) = ((k / w : Nat) : Int) := rfl
      have t2 : Int.tmod (k : Int) (w : Int) = ((k % w : Nat) : Int) := rfl
      have t1' : (k : Int) / (w : Int) = ((k / w : Nat) : Int) := rfl
      have t2' : (k : Int) % (w : Int) = ((k % w : Nat) : Int) := rfl
      have d1 := Nat.div_le_self k w
      have d2 := Nat.mod_le k w
      have hes := HE.out k
      have hos := HO.out k
      have hel := HEL.out k
      have hol := HOL.out k
      generalize k / w = p at *
      generalize k % w = q at *
      have w1 : IntKind.i64.wrap (p : Int) = (p : Int) := IntWalk.i64_in _ (by omega)
      have w2 : IntKind.i64.wrap (q : Int) = (q : Int) := IntWalk.i64_in _ (by omega)
      have s1 : IntKind.i64.wrap ((p : Int) + (q : Int)) = ((p + q : Nat) : Int) := (IntWalk.i64_in _ (by omega)).trans (by omega)
      have u1 : Int.tmod ((p + q : Nat) : Int) 2 = (((p + q) % 2 : Nat) : Int) := rfl
      have u1' : ((p + q : Nat) : Int) % 2 = (((p + q) % 2 : Nat) : Int) := rfl
      have m2 : (p + q) % 2 < 2 := Nat.mod_lt _ (by omega)
      have hcase : ((p + q) % 2 == 0) = true ∨ ((p + q) % 2 == 0) = false := by cases ((p + q) % 2 == 0) <;> simp
      generalize hr : (p + q) % 2 = r at *
      have hr' := hide hr
      clear hr
      generalize p + q = pq at *
      have v1 : IntKind.i64.wrap (r : Int) = (r : Int) := IntWalk.i64_in _ (by omega)
      have k0 : (0 : Int) ≤ (k : Int) := by omega
      have k1 : (k : Int) < (n : Int) := by omega
      have OV := hide ov
      have OU := hide ou
      have HAP := hide hap
      rcases hcase with hc | hc
      · rw [hc] at hes hos
        rw [if_pos rfl] at hes
        rw [if_neg (by decide), List.append_nil] at hos
        obtain rfl : r = 0 := beq_iff_eq.1 hc
        have HES := hide hes
        have HOS := hide hos
        clear hes hos hc ov ou hap
        go_wp2_with fail
        go_quiet (fail)
        go_wp2_with ((at_builtin; refine put_own rfl (.tmp 23) (.tmp 25) rfl Tryd.underlying35 elem_int0 rfl ((own_drewN OV.out _).alloc _) rfl (m := 1) (news := [.int .i64 (k : Int)]) rfl (row_new _ _ _ rfl) (by simp [Value.oneCell']) (by omega) (by omega) (by simp; omega) ?_; intro v9 w9 own9 hg9 ho9))
        have ov' := (own_drewN OV.out nq).alloc (.cells #[.int .i64 (k : Int)] 3)
        have ou' := (own_drewN OU.out nq).alloc (.cells #[.int .i64 (k : Int)] 3)
        have bx' := (show Box (wo.drewN nq) W.heap.size 32 #[.int .i64 (w : Int), .int .i64 (h : Int)] from bx).alloc (.cells #[.int .i64 (k : Int)] 3)
        refine ⟨⟨k + 1, hlt, by go_num, ?_, ?_, HAP.out.put ou' ho9, below_grown ((below_drewN hb _).alloc (by simp; omega) _) (by simp; omega) ov' (by omega) hg9, bx'.grown hg9 (own_ne ov' bx' (by decide))⟩, by simp [intOf]; omega⟩
        · rw [HES.out, nI_snoc, List.length_append]
          exact own9
        · rw [HOS.out]
          exact own_apart ou' hg9 HAP.out
      · rw [hc] at hes hos
        rw [if_neg (by decide), List.append_nil] at hes
        rw [Bool.not_false, if_pos rfl] at hos
        have hr1 : r = 1 := by have := beq_eq_false_iff_ne.1 hc; omega
        subst hr1
        have HES := hide hes
        have HOS := hide hos
        clear hes hos hc ov ou hap
        go_wp2_with fail
        go_quiet (fail)
        go_wp2_with ((at_builtin; refine put_own rfl (.tmp 27) (.tmp 29) rfl Tryd.underlying35 elem_int0 rfl ((own_drewN OU.out _).alloc _) rfl (m := 1) (news := [.int .i64 (k : Int)]) rfl (row_new _ _ _ rfl) (by simp [Value.oneCell']) (by omega) (by omega) (by simp; omega) ?_; intro v9 w9 own9 hg9 ho9))
        have ov' := (own_drewN OV.out nq).alloc (.cells #[.int .i64 (k : Int)] 3)
        have ou' := (own_drewN OU.out nq).alloc (.cells #[.int .i64 (k : Int)] 3)
        have bx' := (show Box (wo.drewN nq) W.heap.size 32 #[.int .i64 (w : Int), .int .i64 (h : Int)] from bx).alloc (.cells #[.int .i64 (k : Int)] 3)
        refine ⟨⟨k + 1, hlt, by go_num, ?_, ?_, (HAP.out.symm.put ov' ho9).symm, below_grown ((below_drewN hb _).alloc (by simp; omega) _) (by simp; omega) ou' (by omega) hg9, bx'.grown hg9 (own_ne ou' bx' (by decide))⟩, by simp [intOf]; omega⟩
        · rw [HES.out]
          exact own_apart ov' hg9 HAP.out.symm
        · rw [HOS.out, nI_snoc, List.length_append]
          exact own9
    · obtain rfl : k = n := by omega
      have OV := hide ov
      have OU := hide ou
      clear ov ou
      go_wp2_with fail
      go_ret2
      exact ⟨_, _, rfl, own_mono OV.out (by omega), own_mono OU.out (by omega), hap, hb⟩

/-- The sign as the program tells it. -/
def sgnP (w h p q : Nat) : Int := if (cellsP (w : Int) (h : Int) false [] (p : Int) straight).contains (q : Int) then (if p % w = q % w ∧ p % w % 2 = 1 then -1 else 1) else 0
def sgnOk (w h : Nat) : Bool := (List.range (w * h)).all fun p => (List.range (w * h)).all fun q => sgnP w h p q == signOf w p q
theorem sgn_ok : ∀ a : Fin 5, ∀ b : Fin 5, sgnOk (a.val + 1) (b.val + 1) = true := by decide +kernel
theorem sgn_is {w h p q : Nat} (hw : 1 ≤ w ∧ w ≤ 5) (hh : 1 ≤ h ∧ h ≤ 5) (hp : p < w * h) (hq : q < w * h) : sgnP w h p q = signOf w p q := by
  have h0 := sgn_ok ⟨w - 1, by omega⟩ ⟨h - 1, by omega⟩
  simp only [show w - 1 + 1 = w by omega, show h - 1 + 1 = h by omega] at h0
  exact beq_iff_eq.1 (List.all_eq_true.1 (List.all_eq_true.1 h0 p (List.mem_range.2 hp)) q (List.mem_range.2 hq))

set_option maxHeartbeats 2000000 in
set_option maxRecDepth 100000 in
theorem signOf_c (w h p q : Nat) (W : World) (hw : 1 ≤ w ∧ w ≤ 5) (hh : 1 ≤ h ∧ h ≤ 5) (hp : p < w * h) (hq : q < w * h) :
    Calls Tryd.prog 14 #[boardV (w : Int) (h : Int), .int .i64 (p : Int), .int .i64 (q : Int)] W (Plain (.int .i64 (signOf w p q)) W) := by
  rw [← sgn_is hw hh hp hq]
  have h25 : w * h ≤ 25 := Nat.mul_le_mul hw.2 hh.2
  have he : (cellsP (w : Int) (h : Int) false [] (p : Int) straight).contains (q : Int) = (reachP (w : Int) (h : Int) false [] (p : Int) straight).contains (q : Int) := by
    rw [Bool.eq_iff_iff, List.contains_iff_mem, List.contains_iff_mem]
    exact (List.mergeSort_perm _ _).mem_iff.symm
  unfold sgnP
  rw [he]
  have HR := hide (fun (g : Nat) (w5 : World) (hr : Row w5 (some ⟨g, 0, none⟩) [.int .i64 (-1), .int .i64 0, .int .i64 0, .int .i64 (-1), .int .i64 0, .int .i64 1, .int .i64 1, .int .i64 0]) => show Calls Tryd.prog 26 #[boardV (w : Int) (h : Int), .iface 54 (.agg #[.slice (some ⟨g, 0, none⟩) 4 4]), .int .i64 (p : Int), .slice none 0 0] w5 (Owns 3 1 (reachP (w : Int) (h : Int) false [] (p : Int) straight).length (ints (reachP (w : Int) (h : Int) false [] (p : Int) straight)) w5) from reach_near (w : Int) (h : Int) (p : Int) g none 4 0 straight [] w5 (by omega) (by omega) (by omega) (by omega) (by omega) (by rw [← Int.natCast_mul]; omega) (hide (by decide)) (by decide) hr (Row.empty _ _) (fun _ e => by cases e) (by simp [maxLen]))
  have hlen : (reachP (w : Int) (h : Int) false [] (p : Int) straight).length ≤ maxLen := by
    have := reach_len (w : Int) (h : Int) false [] (p : Int) straight
    rw [show straight.length = 4 from rfl] at this
    unfold maxLen
    omega
  have HC := hide (fun (O : Option Addr) (oc : Nat) (w5 : World) (hr : Row w5 O (ints (reachP (w : Int) (h : Int) false [] (p : Int) straight))) (hf : Flat O) => contains_c O (reachP (w : Int) (h : Int) false [] (p : Int) straight) oc (q : Int) w5 hr hf hlen)
  have HST := hide (fun w5 => straight_c w5)
  have bx0 := Box.new W 32 #[.int .i64 (w : Int), .int .i64 (h : Int)]
  generalize reachP (w : Int) (h : Int) false [] (p : Int) straight = L at *
  clear he
  have w0 : (w : Int) ≠ 0 := by omega
  have w00 : ¬ w = 0 := by omega
  have t1 : Int.tmod (p : Int) (w : Int) = ((p % w : Nat) : Int) := rfl
  have t2 : Int.tmod (q : Int) (w : Int) = ((q % w : Nat) : Int) := rfl
  have t1' : (p : Int) % (w : Int) = ((p % w : Nat) : Int) := rfl
  have t2' : (q : Int) % (w : Int) = ((q % w : Nat) : Int) := rfl
  have d1 := Nat.mod_le p w
  have d2 := Nat.mod_le q w
  generalize p % w = pm at *
  generalize q % w = qm at *
  have w1 : IntKind.i64.wrap (pm : Int) = (pm : Int) := IntWalk.i64_in _ (by omega)
  have w2 : IntKind.i64.wrap (qm : Int) = (qm : Int) := IntWalk.i64_in _ (by omega)
  have u1 : Int.tmod (pm : Int) 2 = ((pm % 2 : Nat) : Int) := rfl
  have u1' : (pm : Int) % 2 = ((pm % 2 : Nat) : Int) := rfl
  have m2 : pm % 2 < 2 := Nat.mod_lt _ (by omega)
  obtain ⟨V, hV⟩ : ∃ V : Int, (if L.contains (q : Int) = true then (if pm = qm ∧ pm % 2 = 1 then (-1 : Int) else 1) else 0) = V := ⟨_, rfl⟩
  rw [hV]
  have HV := hide hV
  clear hV
  generalize pm % 2 = r at *
  have v1 : IntKind.i64.wrap (r : Int) = (r : Int) := IntWalk.i64_in _ (by omega)
  generalize L.contains (q : Int) = bb at *
  go_enter Tryd.func14, Tryd.ntmps14
  go_wp2_with fail
  have hbd : Below W.heap.size W (W.alloc (.cells #[.int .i64 (w : Int), .int .i64 (h : Int)] 32)).drew := ((Below.refl _ _).alloc (Nat.le_refl _) _).drew
  have bxd : Box (W.alloc (.cells #[.int .i64 (w : Int), .int .i64 (h : Int)] 32)).drew W.heap.size 32 #[.int .i64 (w : Int), .int .i64 (h : Int)] := bx0
  have k0 := bxd.cell 0
  have k1 := bxd.cell 1
  go_region_held3 (fun w' => w'.cell? ⟨W.heap.size, 0, none⟩ = some (.int .i64 (w : Int)) ∧ w'.cell? ⟨W.heap.size, 1, none⟩ = some (.int .i64 (h : Int))) (go_keep)
    (first
      | (go_at_call 27; refine (HST.out _).mono ?_
         rintro e w1 ⟨rfl, rfl⟩
         have hr1 := hide (row_new (W.alloc (.cells #[.int .i64 (w : Int), .int .i64 (h : Int)] 32)).drew #[.int .i64 (-1), .int .i64 0, .int .i64 0, .int .i64 (-1), .int .i64 0, .int .i64 1, .int .i64 1, .int .i64 0] 71 (n := W.heap.size + 1) (by simp))
         have bx1 := bxd.alloc (.cells #[.int .i64 (-1), .int .i64 0, .int .i64 0, .int .i64 (-1), .int .i64 0, .int .i64 1, .int .i64 1, .int .i64 0] 71)
         have k10 := bx1.cell 0
         have k11 := bx1.cell 1
         have hb1 := hbd.alloc hbd.size (.cells #[.int .i64 (-1), .int .i64 0, .int .i64 0, .int .i64 (-1), .int .i64 0, .int .i64 1, .int .i64 1, .int .i64 0] 71))
      | (go_at_call 26; refine (HR.out _ _ hr1.out).mono ?_
         rintro e w2 ⟨v2, rfl, o2, b2⟩
         have bx2 := bx1.then b2
         have k20 := bx2.cell 0
         have k21 := bx2.cell 1
         have hb2 := below_then hb1 hb1.size b2
         obtain ⟨A2, c2, rfl, _, _, r2, hf2⟩ := own_row o2
         have r2 := hide r2
         have hf2 := hide (show Flat A2 from fun ad e => by obtain ⟨g, rfl, _⟩ := hf2 ad e; exact ⟨_, _, rfl⟩)
         clear o2 b2)
      | (go_at_call 25; refine (HC.out _ _ _ r2.out hf2.out).mono ?_
         rintro e w3 ⟨rfl, b3⟩
         have bx3 := bx2.then b3
         have k30 := bx3.cell 0
         have k31 := bx3.cell 1
         have hb3 := below_then hb2 hb2.size b3
         clear b3)
      | fail)
  have B3 := hide hb3
  cases bb with
  | false =>
    go_wp2_with fail
    go_ret
    exact ⟨by rw [← HV.out]; rfl, B3.out⟩
  | true =>
    have hv : (if pm = qm ∧ r = 1 then (-1 : Int) else 1) = V := HV.out
    by_cases he : pm = qm
    · have he' : ((pm : Int) == (qm : Int)) = true := by simp [he]
      by_cases h1 : r = 1
      · rw [if_pos ⟨he, h1⟩] at hv
        have h1' : ((r : Int) == 1) = true := by simp [h1]
        have HVV := hide hv
        clear hv he h1 HV
        go_wp2_with fail
        go_quiet (fail)
        go_wp2_with fail
        go_ret
        exact ⟨by rw [← HVV.out]; rfl, below_drewN B3.out _⟩
      · rw [if_neg (fun h => h1 h.2)] at hv
        have h1' : ((r : Int) == 1) = false := by simp; omega
        have HVV := hide hv
        clear hv he h1 HV
        go_wp2_with fail
        go_quiet (fail)
        go_wp2_with fail
        go_ret
        exact ⟨by rw [← HVV.out]; rfl, below_drewN B3.out _⟩
    · rw [if_neg (fun h => he h.1)] at hv
      have he' : ((pm : Int) == (qm : Int)) = false := by simp; omega
      have HVV := hide hv
      clear hv he HV
      go_wp2_with fail
      go_quiet (fail)
      go_wp2_with fail
      go_ret
      exact ⟨by rw [← HVV.out]; rfl, below_drewN B3.out _⟩
end Go.Proofs.YtnikgnicjbcbmabDoor
