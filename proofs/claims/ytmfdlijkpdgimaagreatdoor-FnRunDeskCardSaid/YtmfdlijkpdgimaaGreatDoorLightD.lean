
/-
  Lights: the model's solve.
-/
import Derived.Test.YtmfdlijkpdgimaaGreatDoorLightsM
import Derived.StillTailTactics
namespace Go.Proofs.YtmfdlijkpdgimaaGreatDoor
open Go.RowKit
set_option linter.unusedVariables false

/-- Two rows of the call's own that lie apart. -/
def AsideL (v u : Value) : Prop := ∀ k, v.ownBlock = some k → u.ownBlock ≠ some k
theorem AsideL.symm {v u : Value} (h : AsideL v u) : AsideL u v := fun k hu hv => h k hv hu
theorem AsideL.put {w : World} {base e size n : Nat} {v v' u : Value} {xs : List Value} (h : AsideL v u) (hu : w.ownsRow base e size u n xs) (ho : v'.ownBlock = v.ownBlock ∨ v'.ownBlock = some w.heap.size) : AsideL v' u := fun k hk hu' => by
  rcases ho with ho | ho
  · exact h k (ho.symm.trans hk) hu'
  · rw [ho] at hk
    injection hk with hk
    have := (hu.lt k hu').2
    omega
theorem own_beside {w w' : World} {base e size n : Nat} {v u : Value} {xs : List Value} (hu : w.ownsRow base e size u n xs) (hg : w.grownBy w' v.ownBlock) (h : AsideL v u) : w'.ownsRow base e size u n xs := hu.kept hg (by
  cases hv : u.ownBlock with
  | none => exact .inl rfl
  | some k => exact .inr fun e => h k e.symm hv)
theorem own_beside1 {w w' : World} {base e size n g : Nat} {u : Value} {xs : List Value} (hu : w.ownsRow base e size u n xs) (hg : w.grownBy w' (some g)) (h : u.ownBlock ≠ some g) : w'.ownsRow base e size u n xs := hu.kept hg (by
  cases hv : u.ownBlock with
  | none => exact .inl rfl
  | some k => exact .inr fun e => h (hv.trans e))
theorem natI_put (L : List Nat) (x : Nat) : ints (natI L) ++ [.int .i64 (x : Int)] = ints (natI (L ++ [x])) := by simp [natI, ints]

/-- What solve answers. -/
def Solved (S : Elim Nat) (n : Nat) (W : World) (e : Ending) (w' : World) : Prop :=
  (goodTo S.right S.lead.length (n - S.lead.length) = false ∧ e = .returned (.tuple #[.int .i64 0, .slice none 0 0, .bool false]) ∧ Below W.heap.size W w') ∨
  (goodTo S.right S.lead.length (n - S.lead.length) = true ∧ ∃ v, e = .returned (.tuple #[.int .i64 ((sumToL S.right S.lead S.lead.length : Nat) : Int), v, .bool true]) ∧ w'.ownsRow W.heap.size 3 1 v (quietTo S.rows S.lead n).length (ints (natI (quietTo S.rows S.lead n))) ∧ Below W.heap.size W w')

set_option maxHeartbeats 16000000 in
set_option maxRecDepth 100000 in
theorem solve_c (w h x : Nat) (W : World) (hw : 1 ≤ w ∧ w ≤ 5) (hh : 1 ≤ h ∧ h ≤ 5) (h12 : w * h ≤ 12) (hx : x < 4096) :
    Calls Tryz.prog 50 #[.int .i64 (w : Int), .int .i64 (h : Int), .int .i64 (x : Int)] W (Solved (elimX (litL w h) x (w * h)) (w * h) W) := by
  have HPR := hide (fun w5 => specPresses_c w h w5 hw hh h12)
  have HBI := hide (fun (y j : Nat) (hy : y ≤ 4096) (hj : j ≤ 12) w5 => specBit12_c y j hy hj w5)
  have HPW := hide (fun (j : Nat) (hj : j ≤ 12) w5 => specPower12_c j hj w5)
  have HXO := hide (fun (a b : Nat) (ha : a < 4096) (hb : b < 4096) w5 => specXor_c a b ha hb w5)
  have hl := litL_len w h
  have HOK := hide (fun c hc => by
    have := elim_ok (L := litL w h) (fun i => set12 h12 (lit_bd hw hh h12 i)) x c hc
    rw [hl] at this
    exact this)
  have HE0 := hide (show elimX (litL w h) x 0 = ⟨litL w h, (List.range (litL w h).length).map fun k => bitN x k, []⟩ from rfl)
  have HES := hide (fun c => show elimX (litL w h) x (c + 1) = colX (w * h) (elimX (litL w h) x c) c by
    show colX (litL w h).length _ c = _
    rw [hl])
  have HLB := hide (fun i => set12 h12 (lit_bd hw hh h12 i))
  have hmn : ((w : Int) * (h : Int)) = ((w * h : Nat) : Int) := by rw [Int.natCast_mul]
  have e0 : IntKind.i64.wrap ((w : Int) * (h : Int)) = ((w * h : Nat) : Int) := (IntWalk.i64_in _ (by omega)).trans hmn
  have hpos : 0 < w * h := Nat.mul_pos (by omega) (by omega)
  have HLT := hide (fun k (hk : k < w * h) => show (litL w h).take (k + 1) = (litL w h).take k ++ [(litL w h)[k]?.getD 0] by
    rw [List.take_succ_eq_append_getElem (by omega), List.getElem?_eq_getElem (by omega), Option.getD_some])
  have HLA := hide (show (litL w h).take (w * h) = litL w h from List.take_of_length_le (by omega))
  have HLL := hide hl
  rw [hl] at HE0
  clear hmn hw hh hl
  generalize litL w h = L at *
  generalize elimX L x = E at *
  generalize w * h = n at *
  go_enter Tryz.func50, Tryz.ntmps50
  go_wp2_with fail
  refine (HPR.out _).mono ?_
  rintro e w1 ⟨v1, rfl, o1, b1⟩
  obtain ⟨gl, cl, rfl, gl1, gl2⟩ := own_addr o1 hpos
  have R1 := hide (own_reads o1)
  have z1 := b1.size
  clear o1 HPR
  have ba := ((Below.refl w1.heap.size w1).alloc (Nat.le_refl _) (.cells #[] 3)).alloc (by simp) (.cells #[] 3)
  have oa := (World.ownsRow_made (base := w1.heap.size) (e := 3) (size := 1) w1 #[] 0 (Nat.le_refl _) (by simp [maxLen]) rfl).alloc (.cells #[] 3)
  have ob := World.ownsRow_made (base := w1.heap.size) (e := 3) (size := 1) (w1.alloc (.cells #[] 3)) #[] 0 (by simp) (by simp [maxLen]) rfl
  go_wp2_with fail
  go_loopw [11, 12, 13] (fun v u i wr => ∃ k : Nat, k ≤ n ∧ i = .int .i64 (k : Int) ∧ wr.ownsRow w1.heap.size 3 1 v k (ints (natI (L.take k))) ∧ wr.ownsRow w1.heap.size 3 1 u k (ints (natI ((List.range k).map fun j => bitN x j))) ∧ AsideL v u ∧ Below w1.heap.size w1 wr) (fun _ _ i _ => n - (intOf i).toNat)
  case atStart => exact ⟨0, Nat.zero_le _, rfl, by simpa [natI, ints] using oa, by simpa [natI, ints] using ob, (fun k hk hk2 => by simp [Value.ownBlock] at hk hk2; omega), ba⟩
  case round =>
    clear oa ob ba
    obtain ⟨k, hk, rfl, own1, own2, has, hb⟩ := hrel
    obtain ⟨wo, rfl⟩ : ∃ wo : World, wo = wr := ⟨_, rfl⟩
    by_cases hlt : k < n
    · obtain ⟨_, ⟨rfl⟩, hck⟩ := (R1.out.below hb).int (k := k) (by rw [natI_len, HLL.out]; exact hlt)
      rw [natI_at, add0] at hck
      have HTk := hide (HLT.out k hlt)
      have HRk := hide (show (List.range (k + 1)).map (fun j => bitN x j) = (List.range k).map (fun j => bitN x j) ++ [bitN x k] by rw [List.range_succ, List.map_append]; rfl)
      have HBk := hide (fun w5 => HBI.out x k (by omega) (by omega) w5)
      generalize L[k]?.getD 0 = y at *
      generalize bitN x k = bx at *
      have k0 : (0 : Int) ≤ (k : Int) := by omega
      have k1 : (k : Int) < (n : Int) := by omega
      obtain ⟨A1, c1, rfl, _⟩ := own_row own1
      obtain ⟨A2, c2, rfl, _⟩ := own_row own2
      have z0 := hb.size
      have OW1 := hide (own1.alloc (.cells #[.int .i64 (y : Int)] 3))
      have OW2 := hide (own2.alloc (.cells #[.int .i64 (y : Int)] 3))
      have HB1 := hide (hb.alloc z0 (.cells #[.int .i64 (y : Int)] 3))
      clear own1 own2 hb
      go_wp2_with ((at_builtin; refine put_own rfl (.tmp 41) (.tmp 46) rfl Tryz.underlying35 elem_int' rfl OW1.out rfl (m := 1) (news := [.int .i64 (y : Int)]) rfl (row_new _ _ _ rfl) (by simp [Value.oneCell']) (by omega) (by omega) HB1.out.size ?_; intro v5 w5 own5 hg5 ho5))
      have own2 := own_beside OW2.out hg5 has
      have has5 := AsideL.put has OW2.out ho5
      have hb5 := below_grown HB1.out HB1.out.size OW1.out (Nat.le_refl _) hg5
      rw [natI_put, ← HTk.out] at own5
      refine (HBk.out _).mono ?_
      rintro e w6 ⟨rfl, rfl⟩
      have OW5 := hide (own5.alloc (.cells #[.int .i64 (bx : Int)] 3))
      have OW6 := hide (own2.alloc (.cells #[.int .i64 (bx : Int)] 3))
      have HB6 := hide (hb5.alloc hb5.size (.cells #[.int .i64 (bx : Int)] 3))
      clear own5 own2 hb5 hg5 ho5 OW1 OW2 HB1
      go_wp2_with ((at_builtin; refine put_own rfl (.tmp 48) (.tmp 52) rfl Tryz.underlying35 elem_int' rfl OW6.out rfl (m := 1) (news := [.int .i64 (bx : Int)]) rfl (row_new _ _ _ rfl) (by simp [Value.oneCell']) (by omega) (by omega) HB6.out.size ?_; intro v7 w7 own7 hg7 ho7))
      rw [natI_put, ← HRk.out] at own7
      have own8 := own_beside OW5.out hg7 has5.symm
      have has8 := (AsideL.put has5.symm OW5.out ho7).symm
      have hb8 := below_grown HB6.out HB6.out.size OW6.out (Nat.le_refl _) hg7
      exact ⟨⟨k + 1, hlt, by go_num, own8, own7, has8, hb8⟩, by simp [intOf]; omega⟩
    · obtain rfl : k = n := by omega
      rw [HLA.out] at own1
      obtain ⟨gr, cr, rfl, gr1, gr2⟩ := own_addr own1 hpos
      obtain ⟨gy, cy, rfl, gy1, gy2⟩ := own_addr own2 hpos
      have hne : gr ≠ gy := fun e => has gr rfl (by rw [e]; rfl)
      have HHAS := hide has
      clear has R1 gl1 gl2 HLT HLA HLB
      have OL := World.ownsRow_made (base := w1.heap.size) (e := 3) (size := 1) wo #[] 0 hb.size (by simp [maxLen]) rfl
      have OWR := hide (own1.alloc (.cells #[] 3))
      have OWG := hide (own2.alloc (.cells #[] 3))
      have HBA := hide (hb.alloc hb.size (.cells #[] 3))
      have HOL := hide OL
      have hz := hb.size
      clear own1 own2 hb OL
      go_wp2_with fail
      go_loopw [14, 15, 16] (fun v a i wr => ∃ c : Nat, c ≤ k ∧ i = .int .i64 (c : Int) ∧ a = .int .i64 (((E c).lead.length : Nat) : Int) ∧ wr.ownsRow w1.heap.size 3 1 (.slice (some ⟨gr, 0, none⟩) k cr) k (ints (natI (E c).rows)) ∧ wr.ownsRow w1.heap.size 3 1 (.slice (some ⟨gy, 0, none⟩) k cy) k (ints (natI (E c).right)) ∧
        wr.ownsRow w1.heap.size 3 1 v (E c).lead.length (ints (natI (E c).lead)) ∧ v.ownBlock ≠ some gr ∧ v.ownBlock ≠ some gy ∧ Below w1.heap.size w1 wr) (fun _ _ i _ => k - (intOf i).toNat)
      case atStart =>
        refine ⟨0, Nat.zero_le _, rfl, by rw [HE0.out]; rfl, by rw [HE0.out]; exact OWR.out, by rw [HE0.out]; exact OWG.out, by rw [HE0.out]; simpa [natI, ints] using HOL.out, ?_, ?_, HBA.out⟩
        · simp [Value.ownBlock]; omega
        · simp [Value.ownBlock]; omega
      case round =>
        clear OWR OWG HBA HOL
        obtain ⟨c, hc, rfl, rfl, own1, own2, own3, hv1, hv2, hb⟩ := hrel
        obtain ⟨Al, cll, rfl, _⟩ := own_row own3
        obtain ⟨wp, rfl⟩ : ∃ wp : World, wp = wr := ⟨_, rfl⟩
        have hok := HOK.out c (by omega)
        by_cases hlt2 : c < k
        · have HEc := hide (HES.out c)
          generalize hS : E c = S at *
          have HSc := hide hS
          clear hS
          have hal := hok.ll
          have HOKS := hide hok
          have HRB := hide hok.rb
          have HGB := hide hok.gb
          have hPe : Hid (pivPL S.rows c (k - S.lead.length) S.lead.length = pivPL S.rows c (k - S.lead.length) S.lead.length) := rfl
          have hP2 := (piv_bd S.rows c (k - S.lead.length) S.lead.length)
          generalize hP : pivPL S.rows c (k - S.lead.length) S.lead.length = P at hPe hP2
          have HPP := hide hP
          generalize ha : S.lead.length = a at *
          have HA := hide ha
          clear hP ha hok hPe
          have c0 : (0 : Int) ≤ (c : Int) := by omega
          have c1 : (c : Int) < (k : Int) := by omega
          go_wp2_with fail
          go_loopw [17] (fun i wi => ∃ p : Nat, a ≤ p ∧ p ≤ k ∧ i = .int .i64 (p : Int) ∧ Hid (pivPL S.rows c (k - p) p = P) ∧ wp = wi) (fun i _ => k - (intOf i).toNat)
          case atStart => exact ⟨a, Nat.le_refl _, hal, rfl, HPP.out, rfl⟩
          case round =>
            obtain ⟨p, hap, hpk, rfl, hp, rfl⟩ := hrel
            by_cases hpl : p < k
            · obtain ⟨q1, q2, -, -⟩ := own_natI own1 (k := p) hpl 0
              have hyb := HRB.out p
              have HBk := hide (fun w5 => HBI.out (S.rows[p]?.getD 0) c (by omega) (by omega) w5)
              have hpS : pivPL S.rows c (k - p) p = if bitN (S.rows[p]?.getD 0) c = 0 then pivPL S.rows c (k - (p + 1)) (p + 1) else p := by
                obtain ⟨f, hf⟩ : ∃ f, k - p = f + 1 := ⟨k - p - 1, by omega⟩
                rw [hf, show k - (p + 1) = f by omega]
                rfl
              have p0 : (0 : Int) ≤ (p : Int) := by omega
              have p1 : (p : Int) < (k : Int) := by omega
              rcases bitN_two (S.rows[p]?.getD 0) c with hbb | hbb
              · rw [hbb] at HBk hpS
                rw [if_pos rfl] at hpS
                have HPN : Hid (pivPL S.rows c (k - (p + 1)) (p + 1) = P) := hpS.symm.trans hp.out
                clear hpS hp hbb
                generalize S.rows[p]?.getD 0 = y at *
                go_wp2_with fail
                refine (HBk.out _).mono ?_
                rintro e w5 ⟨rfl, rfl⟩
                go_wp2_with fail
                exact ⟨⟨p + 1, by omega, hpl, by go_num, HPN, trivial⟩, by simp [intOf]; omega⟩
              · rw [hbb] at HBk hpS
                rw [if_neg (by omega)] at hpS
                obtain rfl : P = p := hp.out.symm.trans hpS
                have hPn : P ≠ k := by omega
                have HCS := hide (HEc.out.trans (col_some (by rw [HA.out]; exact HPP.out) hPn))
                rw [HA.out] at HCS
                have hpkf : ((P : Int) == (k : Int)) = false := by rw [beq_eq_false_iff_ne]; omega
                have hak : a < k := by omega
                have a0 : (0 : Int) ≤ (a : Int) := by omega
                have a1 : (a : Int) < (k : Int) := by omega
                obtain ⟨qa1, qa2, -, -⟩ := own_natI own1 (k := a) hak 0
                obtain ⟨-, -, oA, gA⟩ := own_natI own1 (k := P) hpl (S.rows[a]?.getD 0)
                obtain ⟨s1, s2, oB, gB⟩ := own_natI oA (k := a) hak (S.rows[P]?.getD 0)
                have own2A := own_beside1 own2 gA (fun e => hne (by injection (show some gy = some gr from e) with e; exact e.symm))
                have own2B := own_beside1 own2A gB (fun e => hne (by injection (show some gy = some gr from e) with e; exact e.symm))
                have own3A := own_beside1 own3 gA hv1
                have own3B := own_beside1 own3A gB hv1
                have hbA := hb.grown gA hb.size (fun z e => by injection e with e; omega)
                have hbB := hbA.grown gB hbA.size (fun z e => by injection e with e; omega)
                obtain ⟨u1, u2, -, -⟩ := own_natI own2B (k := P) hpl 0
                obtain ⟨u3, u4, -, -⟩ := own_natI own2B (k := a) hak 0
                obtain ⟨-, -, oC, gC⟩ := own_natI own2B (k := P) hpl (S.right[a]?.getD 0)
                obtain ⟨t1, t2, oD, gD⟩ := own_natI oC (k := a) hak (S.right[P]?.getD 0)
                have own1C := own_beside1 oB gC (fun e => hne (by injection (show some gr = some gy from e)))
                have own1D := own_beside1 own1C gD (fun e => hne (by injection (show some gr = some gy from e)))
                have own3C := own_beside1 own3B gC hv2
                have own3D := own_beside1 own3C gD hv2
                have hbC := hbB.grown gC hbB.size (fun z e => by injection e with e; omega)
                have hbD := hbC.grown gD hbC.size (fun z e => by injection e with e; omega)
                have Z1 : Hid (World.ownsRow _ w1.heap.size 3 1 (.slice (some ⟨gr, 0, none⟩) k cr) k (ints (natI (swapG 0 S.rows P a)))) := own1D
                have Z2 : Hid (World.ownsRow _ w1.heap.size 3 1 (.slice (some ⟨gy, 0, none⟩) k cy) k (ints (natI (swapG 0 S.right P a)))) := oD
                have Z3 := hide own3D
                have Z4 := hide hbD
                have HSL := hide (fun i => swap_lt HRB.out P a i)
                have HSG := hide (fun i => swap_lt HGB.out P a i)
                clear hpS hp hbb oA oB oC oD gA gB gC gD own2A own2B own3A own3B own1C own1D own3C own3D hbA hbB hbC hbD own1 own2 own3 hb hP2 hPn HPP HEc
                generalize swapG 0 S.rows P a = R0 at *
                generalize swapG 0 S.right P a = G0 at *
                generalize S.rows[P]?.getD 0 = xp at *
                generalize S.rows[a]?.getD 0 = xa at *
                generalize S.right[P]?.getD 0 = yp at *
                generalize S.right[a]?.getD 0 = ya at *
                go_wp2_with fail
                refine (HBk.out _).mono ?_
                rintro e w5 ⟨rfl, rfl⟩
                go_wp2_with fail
                go_loopw [20] (fun i wi => ∃ j : Nat, j ≤ k ∧ i = .int .i64 (j : Int) ∧ wi.ownsRow w1.heap.size 3 1 (.slice (some ⟨gr, 0, none⟩) k cr) k (ints (natI (clrR R0 a c j))) ∧ wi.ownsRow w1.heap.size 3 1 (.slice (some ⟨gy, 0, none⟩) k cy) k (ints (natI (clrG add2 0 R0 G0 a c j))) ∧
                  wi.ownsRow w1.heap.size 3 1 (.slice Al a cll) a (ints (natI S.lead)) ∧ Below w1.heap.size w1 wi) (fun i _ => k - (intOf i).toNat)
                case atStart => exact ⟨0, Nat.zero_le _, rfl, Z1.out, Z2.out, Z3.out, Z4.out⟩
                case round =>
                  clear Z1 Z2 Z3 Z4
                  obtain ⟨j, hj, rfl, own1, own2, own3, hb⟩ := hrel
                  obtain ⟨wi, rfl⟩ : ∃ wi : World, wi = wr := ⟨_, rfl⟩
                  by_cases hjl : j < k
                  · have hRS : clrR R0 a c (j + 1) = if j ≠ a ∧ bitN ((clrR R0 a c j)[j]?.getD 0) c = 1 then (clrR R0 a c j).set j (((clrR R0 a c j)[j]?.getD 0) ^^^ ((clrR R0 a c j)[a]?.getD 0)) else clrR R0 a c j := rfl
                    have hGS : clrG add2 0 R0 G0 a c (j + 1) = if j ≠ a ∧ bitN ((clrR R0 a c j)[j]?.getD 0) c = 1 then (clrG add2 0 R0 G0 a c j).set j (add2 ((clrG add2 0 R0 G0 a c j)[j]?.getD 0) ((clrG add2 0 R0 G0 a c j)[a]?.getD 0)) else clrG add2 0 R0 G0 a c j := rfl
                    have j0 : (0 : Int) ≤ (j : Int) := by omega
                    have j1 : (j : Int) < (k : Int) := by omega
                    have hy1 := clrR_lt HSL.out a c j j
                    have hz1 := clrR_lt HSL.out a c j a
                    have hu1 := clrG_lt (R := R0) HSG.out a c j j
                    have hv1' := clrG_lt (R := R0) HSG.out a c j a
                    by_cases hja : j = a
                    · rw [if_neg (fun h => h.1 hja)] at hRS hGS
                      have HRS := hide hRS
                      have HGS := hide hGS
                      have hne2 : ((j : Int) != (a : Int)) = false := by rw [hja]; simp
                      clear hRS hGS hy1 hz1 hu1 hv1' hja
                      generalize clrR R0 a c j = Rj at *
                      generalize clrG add2 0 R0 G0 a c j = Gj at *
                      have X1 := hide own1
                      have X2 := hide own2
                      have X3 := hide own3
                      clear own1 own2 own3
                      go_wp2_with fail
                      exact ⟨⟨j + 1, hjl, by go_num, by rw [HRS.out]; exact X1.out, by rw [HGS.out]; exact X2.out, X3.out, hb⟩, by simp [intOf]; omega⟩
                    · have hne2 : ((j : Int) != (a : Int)) = true := by rw [bne_iff_ne]; omega
                      obtain ⟨q1, q2, -, -⟩ := own_natI own1 (k := j) hjl 0
                      have HBk := hide (fun w5 => HBI.out ((clrR R0 a c j)[j]?.getD 0) c (by omega) (by omega) w5)
                      rcases bitN_two ((clrR R0 a c j)[j]?.getD 0) c with hbb | hbb
                      · rw [hbb] at HBk hRS hGS
                        rw [if_neg (fun h => by omega)] at hRS hGS
                        have HRS := hide hRS
                        have HGS := hide hGS
                        clear hRS hGS hz1 hu1 hv1' hja hbb hy1
                        generalize (clrR R0 a c j)[j]?.getD 0 = y at *
                        generalize clrR R0 a c j = Rj at *
                        generalize clrG add2 0 R0 G0 a c j = Gj at *
                        have X1 := hide own1
                        have X2 := hide own2
                        have X3 := hide own3
                        clear own1 own2 own3
                        go_wp2_with fail
                        refine (HBk.out _).mono ?_
                        rintro e w5 ⟨rfl, rfl⟩
                        go_wp2_with fail
                        exact ⟨⟨j + 1, hjl, by go_num, by rw [HRS.out]; exact X1.out, by rw [HGS.out]; exact X2.out, X3.out, hb⟩, by simp [intOf]; omega⟩
                      · rw [hbb] at HBk hRS hGS
                        rw [if_pos ⟨hja, rfl⟩] at hRS hGS
                        have HRS := hide hRS
                        have HGS := hide hGS
                        have HX := hide (fun w5 => HXO.out ((clrR R0 a c j)[j]?.getD 0) ((clrR R0 a c j)[a]?.getD 0) hy1 hz1 w5)
                        obtain ⟨q3, q4, -, -⟩ := own_natI own1 (k := a) hak 0
                        have HCL := hide (fun (wd : World) (ow : wd.ownsRow w1.heap.size 3 1 (.slice (some ⟨gr, 0, none⟩) k cr) k (ints (natI (clrR R0 a c j)))) => own_natI ow (k := j) hjl ((clrR R0 a c j)[j]?.getD 0 ^^^ (clrR R0 a c j)[a]?.getD 0))
                        have HCG := hide (fun (wd : World) (ow : wd.ownsRow w1.heap.size 3 1 (.slice (some ⟨gy, 0, none⟩) k cy) k (ints (natI (clrG add2 0 R0 G0 a c j)))) => own_natI ow (k := j) hjl (add2 ((clrG add2 0 R0 G0 a c j)[j]?.getD 0) ((clrG add2 0 R0 G0 a c j)[a]?.getD 0)))
                        have HCH := hide (fun (wd : World) (ow : wd.ownsRow w1.heap.size 3 1 (.slice (some ⟨gy, 0, none⟩) k cy) k (ints (natI (clrG add2 0 R0 G0 a c j)))) => own_natI ow (k := a) hak 0)
                        clear hRS hGS hbb hja
                        generalize (clrR R0 a c j)[j]?.getD 0 = y at *
                        generalize (clrR R0 a c j)[a]?.getD 0 = z at *
                        generalize (clrG add2 0 R0 G0 a c j)[j]?.getD 0 = u at *
                        generalize (clrG add2 0 R0 G0 a c j)[a]?.getD 0 = v at *
                        generalize clrR R0 a c j = Rj at *
                        generalize clrG add2 0 R0 G0 a c j = Gj at *
                        generalize y ^^^ z = yz at *
                        have hadd : Hid (add2 u v = (u + v) % 2) := rfl
                        generalize add2 u v = uv at *
                        have es : IntKind.i64.wrap ((u : Int) + (v : Int)) = ((u + v : Nat) : Int) := (IntWalk.i64_in _ (by omega)).trans (by omega)
                        have et : Int.tmod ((u + v : Nat) : Int) 2 = (uv : Int) := by
                          have : Int.tmod ((u + v : Nat) : Int) 2 = (((u + v) % 2 : Nat) : Int) := Int.tmod_eq_emod_of_nonneg (Int.natCast_nonneg _)
                          rw [this, hadd.out]
                        have HKEY : Hid (((u : Int) + (v : Int)) % 2 = (uv : Int)) := by have := hadd.out; show _ = _; omega
                        have hu2 : uv < 2 := by rw [hadd.out]; exact Nat.mod_lt _ (by omega)
                        have ew : IntKind.i64.wrap (uv : Int) = (uv : Int) := IntWalk.i64_in _ (by omega)
                        go_wp2_with fail
                        refine (HBk.out _).mono ?_
                        rintro e w5 ⟨rfl, rfl⟩
                        go_wp2_with fail
                        refine wp_region_still_tail 12 (by kernel_rfl) (by kernel_rfl) ?_
                        simp only [List.take_succ_cons, List.take_zero, List.drop_succ_cons, List.drop_zero]
                        repeat still_step
                        still_call ((HX.out _).mono (fun _ _ h => ⟨h.1, h.2.symm⟩))
                        repeat still_step
                        try refine wpStill_nil ?_
                        have o1d := own1.drew
                        have o2d := own2.drew
                        have o3d := own3.drew
                        have bd := hb.drew
                        change wpList _ _ _ _ _ wi.drew
                        clear own1 own2 own3 hb q1 q2 q3 q4
                        generalize wi.drew = wd at *
                        obtain ⟨d1, d2, d3, d4⟩ := HCL.out wd o1d
                        rw [← HRS.out] at d3
                        have X1 := hide d3
                        have o2e := own_beside1 o2d d4 (fun e => hne (by injection (show some gy = some gr from e) with e; exact e.symm))
                        have X3 := hide (own_beside1 o3d d4 hv1)
                        have X4 := hide (bd.grown d4 bd.size (fun z e => by injection e with e; omega))
                        obtain ⟨f1, f2, -, -⟩ := HCG.out _ o2e
                        obtain ⟨f3, f4, -, -⟩ := HCH.out _ o2e
                        have X2 := hide o2e
                        clear d3 d4 o1d o2d o3d bd o2e HCL
                        go_wp2_with fail
                        generalize wd.setCell ⟨gr, j, none⟩ (.int .i64 (yz : Int)) = we at *
                        go_still_tail 13, (by kernel_rfl)
                        have o1d := X1.out.drew
                        have o2d := X2.out.drew
                        have o3d := X3.out.drew
                        have bd := X4.out.drew
                        change wpList _ _ _ _ _ we.drew
                        clear X1 X2 X3 X4 f1 f2 f3 f4
                        generalize we.drew = wf at *
                        obtain ⟨d1, d2, d3, d4⟩ := HCG.out wf o2d
                        rw [← HGS.out] at d3
                        have X1 := hide (own_beside1 o1d d4 (fun e => hne (by injection (show some gr = some gy from e))))
                        have X2 := hide d3
                        have X3 := hide (own_beside1 o3d d4 hv2)
                        have X4 := hide (bd.grown d4 bd.size (fun z e => by injection e with e; omega))
                        clear d3 d4 o1d o2d o3d bd HCG HCH
                        go_wp2_with fail
                        rw [HKEY.out]
                        exact ⟨⟨j + 1, hjl, by go_num, X1.out, X2.out, X3.out, X4.out⟩, by simp [intOf]; omega⟩
                  · obtain rfl : j = k := by omega
                    have HE1 := hide (show (E (c + 1)).lead.length = a + 1 by rw [HCS.out]; simp [HA.out])
                    have HE2 := hide (show (E (c + 1)).rows = clrR R0 a c j by rw [HCS.out])
                    have HE3 := hide (show (E (c + 1)).right = clrG add2 0 R0 G0 a c j by rw [HCS.out])
                    have HE4 := hide (show (E (c + 1)).lead = S.lead ++ [c] by rw [HCS.out])
                    have X1 := hide (own1.alloc (.cells #[.int .i64 (c : Int)] 3))
                    have X2 := hide (own2.alloc (.cells #[.int .i64 (c : Int)] 3))
                    have X3 := hide (own3.alloc (.cells #[.int .i64 (c : Int)] 3))
                    have X4 := hide (hb.alloc hb.size (.cells #[.int .i64 (c : Int)] 3))
                    clear own1 own2 own3 hb HCS
                    go_wp2_with ((at_builtin; refine put_own rfl (.tmp 150) (.tmp 152) rfl Tryz.underlying35 elem_int' rfl X3.out rfl (m := 1) (news := [.int .i64 (c : Int)]) rfl (row_new _ _ _ rfl) (by simp [Value.oneCell']) (by omega) (by omega) X4.out.size ?_; intro v5 w5 own5 hg5 ho5))
                    rw [natI_put, ← HE4.out] at own5
                    have Y1 := hide (own_beside X1.out hg5 (fun z hz hz2 => hv1 (hz.trans (by rw [← hz2]; rfl))))
                    have Y2 := hide (own_beside X2.out hg5 (fun z hz hz2 => hv2 (hz.trans (by rw [← hz2]; rfl))))
                    have Y4 := hide (below_grown X4.out X4.out.size X3.out (Nat.le_refl _) hg5)
                    have Y5 : Hid (v5.ownBlock ≠ some gr) := fun e5 => by
                      rcases ho5 with ho | ho
                      · exact hv1 (ho.symm.trans e5)
                      · rw [ho] at e5
                        injection e5 with e5
                        have := (X1.out.lt gr rfl).2
                        omega
                    have Y6 : Hid (v5.ownBlock ≠ some gy) := fun e5 => by
                      rcases ho5 with ho | ho
                      · exact hv2 (ho.symm.trans e5)
                      · rw [ho] at e5
                        injection e5 with e5
                        have := (X2.out.lt gy rfl).2
                        omega
                    have Y3 := hide own5
                    clear own5 hg5 ho5 X1 X2 X3 X4
                    go_round
                    case rel => exact ⟨c + 1, hlt2, by go_num, by rw [HE1.out]; go_num, by rw [HE2.out]; exact Y1.out, by rw [HE3.out]; exact Y2.out, by rw [HE1.out]; exact Y3.out, Y5.out, Y6.out, Y4.out⟩
                    case measure => simp [intOf]; omega
            · obtain rfl : p = k := by omega
              have hPk : P = p := by rw [← hp.out, Nat.sub_self]; rfl
              have HN : Hid (E (c + 1) = E c) := by
                have h1 := HPP.out
                rw [hPk, ← HA.out] at h1
                have := HEc.out
                rw [col_none h1] at this
                exact this.trans HSc.out.symm
              have HE1 := hide (show (E (c + 1)).lead.length = a by rw [HN.out, HSc.out, HA.out])
              have HE2 := hide (show (E (c + 1)).rows = S.rows by rw [HN.out, HSc.out])
              have HE3 := hide (show (E (c + 1)).right = S.right by rw [HN.out, HSc.out])
              have HE4 := hide (show (E (c + 1)).lead = S.lead by rw [HN.out, HSc.out])
              clear hPk hp HN HPP hP2
              have hpp : ((p : Int) == (p : Int)) = true := by simp
              have X1 := hide own1
              have X2 := hide own2
              have X3 := hide own3
              clear own1 own2 own3
              go_wp2_with fail
              go_round
              case rel => exact ⟨c + 1, hlt2, by go_num, by rw [HE1.out], by rw [HE2.out]; exact X1.out, by rw [HE3.out]; exact X2.out, by rw [HE4.out, HA.out]; exact X3.out, hv1, hv2, hb⟩
              case measure => simp [intOf]; omega
        · obtain rfl : c = k := by omega
          generalize hS : E c = S at *
          have hal := hok.ll
          have HRB := hide hok.rb
          have HGB := hide hok.gb
          have HLEB := hide hok.lb
          have hSv : Hid (∀ e' w', Solved S c W e' w' → Solved S c W e' w') := fun _ _ h => h
          have HGD := hide (fun (m j : Nat) (hj : j ≤ m) (hg : goodTo S.right S.lead.length m = true) => good_down hj hg)
          have HS0 := hide (show goodTo S.right S.lead.length 0 = true from rfl)
          have HSS := hide (fun m => show goodTo S.right S.lead.length (m + 1) = (goodTo S.right S.lead.length m && (S.right[S.lead.length + m]?.getD 0 != 1)) from rfl)
          have HFN : Hid (∀ w', goodTo S.right S.lead.length (c - S.lead.length) = false → Below W.heap.size W w' → Solved S c W (.returned (.tuple #[.int .i64 0, .slice none 0 0, .bool false])) w') := fun w' hg hb' => .inl ⟨hg, rfl, hb'⟩
          have HFY : Hid (∀ v w', goodTo S.right S.lead.length (c - S.lead.length) = true → w'.ownsRow W.heap.size 3 1 v (quietTo S.rows S.lead c).length (ints (natI (quietTo S.rows S.lead c))) → Below W.heap.size W w' → Solved S c W (.returned (.tuple #[.int .i64 ((sumToL S.right S.lead S.lead.length : Nat) : Int), v, .bool true])) w') := fun v w' hg ho hb' => .inr ⟨hg, v, rfl, ho, hb'⟩
          have hb1 := b1
          generalize ha : S.lead.length = a at *
          have HA := hide ha
          clear hok ha hSv hS HES HOK HE0 HXO
          generalize Solved S c W = POST at *
          go_wp2_with fail
          go_loopw [21] (fun i wi => ∃ m : Nat, a + m ≤ c ∧ i = .int .i64 ((a + m : Nat) : Int) ∧ Hid (goodTo S.right a m = true) ∧ wp = wi) (fun i _ => c - (intOf i).toNat)
          case atStart => exact ⟨0, by omega, rfl, HS0.out, rfl⟩
          case round =>
            obtain ⟨m, hm, rfl, hg, rfl⟩ := hrel
            by_cases hml : a + m < c
            · obtain ⟨q1, q2, -, -⟩ := own_natI own2 (k := a + m) hml 0
              have hub := HGB.out (a + m)
              have hSm := HSS.out m
              rw [hg.out, Bool.true_and] at hSm
              have m0 : (0 : Int) ≤ ((a + m : Nat) : Int) := by omega
              have m1 : ((a + m : Nat) : Int) < (c : Int) := by omega
              have es : IntKind.i64.wrap (((a + m : Nat) : Int) + 1) = ((a + (m + 1) : Nat) : Int) := (IntWalk.i64_in _ (by omega)).trans (by omega)
              generalize hu : S.right[a + m]?.getD 0 = u at *
              by_cases hu1 : u = 1
              · subst hu1
                have hbad : goodTo S.right a (c - a) = false := by
                  cases hh : goodTo S.right a (c - a) with
                  | false => rfl
                  | true =>
                    have := HGD.out _ _ (show m + 1 ≤ c - a by omega) hh
                    rw [hSm] at this
                    cases this
                have HBAD := hide hbad
                clear hSm hbad hu
                generalize a + m = am at *
                go_wp2_with fail
                exact HFN.out _ HBAD.out (below_then hb1 hb1.size hb)
              · have hne2 : ((u : Int) == 1) = false := by rw [beq_eq_false_iff_ne]; omega
                have HGN : Hid (goodTo S.right a (m + 1) = true) := by
                  show _ = true
                  rw [hSm]
                  simp [bne, hu1]
                have ham : Hid (a + (m + 1) ≤ c) := hide (by omega)
                have hmeas : Hid (c - (a + (m + 1)) < c - (a + m)) := hide (by omega)
                clear hSm hg hu
                generalize ham1 : a + m = am at *
                generalize ham2 : a + (m + 1) = am2 at *
                have HAM2 := hide ham2
                clear ham2
                go_wp2_with fail
                exact ⟨⟨m + 1, by have := HAM2.out; have := ham.out; omega, by rw [HAM2.out], HGN.out, trivial⟩, by have := hmeas.out; simp [intOf]; omega⟩
            · have hmk : m = c - a := by omega
              have HGOOD := hide (hmk ▸ hg.out)
              have hac : a + m = c := by omega
              rw [hac]
              clear hg hmk hac hm hml HFN HSS HS0 HGD
              have HSU := hide (fun i => show sumToL S.right S.lead (i + 1) = sumToL S.right S.lead i + (S.right[i]?.getD 0) * 2 ^ (S.lead[i]?.getD 0) from rfl)
              have HSU0 := hide (show sumToL S.right S.lead 0 = 0 from rfl)
              have HSUB := hide (fun i => sumTo_lt HGB.out HLEB.out i)
              have Z1 := hide own1
              have Z2 := hide own2
              have Z3 := hide own3
              have Z4 := hide hb
              clear own1 own2 own3 hb
              go_wp2_with fail
              go_loopw [22, 23] (fun s i wi => ∃ j : Nat, j ≤ a ∧ i = .int .i64 (j : Int) ∧ s = .int .i64 ((sumToL S.right S.lead j : Nat) : Int) ∧ wi.ownsRow w1.heap.size 3 1 (.slice (some ⟨gr, 0, none⟩) c cr) c (ints (natI S.rows)) ∧ wi.ownsRow w1.heap.size 3 1 (.slice (some ⟨gy, 0, none⟩) c cy) c (ints (natI S.right)) ∧ wi.ownsRow w1.heap.size 3 1 (.slice Al a cll) a (ints (natI S.lead)) ∧ Below w1.heap.size w1 wi) (fun _ i _ => a - (intOf i).toNat)
              case atStart => exact ⟨0, Nat.zero_le _, rfl, by rw [HSU0.out]; rfl, Z1.out, Z2.out, Z3.out, Z4.out⟩
              case round =>
                clear Z1 Z2 Z3 Z4
                obtain ⟨j, hj, rfl, rfl, own1, own2, own3, hb⟩ := hrel
                obtain ⟨wi, rfl⟩ : ∃ wi : World, wi = wr := ⟨_, rfl⟩
                by_cases hjl : j < a
                · obtain ⟨ga, ca, hAe, _, _⟩ := own_addr own3 (by omega)
                  obtain ⟨rfl, rfl⟩ : Al = some ⟨ga, 0, none⟩ ∧ cll = ca := by injection hAe with x1 x2 x3; exact ⟨x1, x3⟩
                  obtain ⟨q1, q2, -, -⟩ := own_natI own2 (k := j) (by omega) 0
                  obtain ⟨q3, q4, -, -⟩ := own_natI own3 (k := j) hjl 0
                  have hub := HGB.out j
                  have hlb := HLEB.out j
                  have hsb := HSUB.out j
                  have hSj := HSU.out j
                  have HPj := hide (fun w5 => HPW.out (S.lead[j]?.getD 0) hlb w5)
                  obtain ⟨p1, p2⟩ := pow12 hlb
                  generalize S.right[j]?.getD 0 = u at *
                  generalize S.lead[j]?.getD 0 = l at *
                  generalize sumToL S.right S.lead j = s at *
                  generalize 2 ^ l = P at *
                  have hup : u * P ≤ 4096 := by
                    have : u = 0 ∨ u = 1 := by omega
                    rcases this with h | h <;> rw [h] <;> omega
                  have hmul : ((u : Int) * (P : Int)) = ((u * P : Nat) : Int) := by rw [Int.natCast_mul]
                  have HSj := hide hSj
                  clear hSj
                  generalize u * P = up at *
                  have e1 : IntKind.i64.wrap ((u : Int) * (P : Int)) = (up : Int) := (IntWalk.i64_in _ (by omega)).trans hmul
                  have e2 : IntKind.i64.wrap ((s : Int) + (up : Int)) = ((s + up : Nat) : Int) := (IntWalk.i64_in _ (by omega)).trans (by omega)
                  have j0 : (0 : Int) ≤ (j : Int) := by omega
                  have j1 : (j : Int) < (a : Int) := by omega
                  have j2 : (j : Int) < (c : Int) := by omega
                  clear hmul
                  go_wp2_with fail
                  refine wp_region_still_tail 12 (by kernel_rfl) (by kernel_rfl) ?_
                  simp only [List.take_succ_cons, List.take_zero, List.drop_succ_cons, List.drop_zero]
                  repeat still_step
                  still_call ((HPj.out _).mono (fun _ _ h => ⟨h.1, h.2.symm⟩))
                  repeat still_step
                  try refine wpStill_nil ?_
                  have X1 := hide own1.drew
                  have X2 := hide own2.drew
                  have X3 := hide own3.drew
                  have X4 := hide hb.drew
                  change wpList _ _ _ _ _ wi.drew
                  clear own1 own2 own3 hb q1 q2 q3 q4
                  generalize wi.drew = wf at *
                  go_wp2_with fail
                  exact ⟨⟨j + 1, hjl, by go_num, by rw [HSj.out]; push_cast; rfl, X1.out, X2.out, X3.out, X4.out⟩, by simp [intOf]; omega⟩
                · obtain rfl : j = a := by omega
                  have RR := own_reads own1
                  have RL := own_reads own3
                  have HHD : Hid (j ≠ 0 → ∃ g, Al = some ⟨g, 0, none⟩) := fun h0 => by
                    obtain ⟨ga, ca, hAe, _, _⟩ := own_addr own3 (by omega)
                    injection hAe with x1 x2 x3
                    exact ⟨ga, x1⟩
                  have HHI := hide (fun (q : Nat) (w5 : World) (h5 : Row w5 Al (ints (natI S.lead))) => by
                    have := hasInt_c Al (natI S.lead) cll (q : Int) w5 h5 (by rw [natI_len, HA.out]; unfold maxLen; omega)
                    rw [natI_len, HA.out, show decide ((q : Int) ∈ natI S.lead) = S.lead.contains q by
                      rw [Bool.eq_iff_iff, decide_eq_true_eq, List.contains_iff_mem, natI, List.mem_map]
                      constructor
                      · rintro ⟨y, hy, e⟩
                        have : y = q := by injection e
                        rwa [← this]
                      · intro hq
                        exact ⟨q, hq, rfl⟩] at this
                    exact this)
                  have hbW := below_then hb1 hb1.size hb
                  have HRL := hide (show S.rows.length = c by have := own1.1; rw [List.length_map, natI_len] at this; omega)
                  clear own1 own2 own3 hv1 hv2 HGB HSU HSU0
                  have HBW := hide hbW
                  have hzW := hbW.size
                  clear hbW hb
                  have HQ0 := hide (show quietTo S.rows S.lead 0 = [] from rfl)
                  have HQS := hide (fun q => show quietTo S.rows S.lead (q + 1) = if S.lead.contains q then quietTo S.rows S.lead q else quietTo S.rows S.lead q ++ [colTo S.rows S.lead q S.lead.length] from rfl)
                  have HCO0 := hide (fun q => show colTo S.rows S.lead q 0 = 2 ^ q from rfl)
                  have HCOS := hide (fun q i => show colTo S.rows S.lead q (i + 1) = colTo S.rows S.lead q i + bitN (S.rows[i]?.getD 0) q * 2 ^ (S.lead[i]?.getD 0) from rfl)
                  have HCOB := hide (fun q hq i => colTo_lt (rows := S.rows) q hq HLEB.out i)
                  have HQL : Hid (∀ q, (quietTo S.rows S.lead q).length ≤ q) := fun q => by
                    induction q with
                    | zero => simp [quietTo]
                    | succ q ih =>
                      simp only [quietTo]
                      split
                      · omega
                      · rw [List.length_append]; simp; omega
                  rw [HA.out] at HQS
                  have OQ := hide (World.ownsRow_made (base := wi.heap.size) (e := 3) (size := 1) wi #[] 0 (Nat.le_refl _) (by simp [maxLen]) rfl)
                  have BQ := hide ((Below.refl wi.heap.size wi).alloc (Nat.le_refl _) (.cells #[] 3))
                  have HRR := hide RR
                  have HRRL := hide RL
                  clear RR RL
                  go_wp2_with fail
                  go_loopw [24, 25] (fun v i wj => ∃ q : Nat, q ≤ c ∧ i = .int .i64 (q : Int) ∧ wj.ownsRow wi.heap.size 3 1 v (quietTo S.rows S.lead q).length (ints (natI (quietTo S.rows S.lead q))) ∧ Below wi.heap.size wi wj) (fun _ i _ => c - (intOf i).toNat)
                  case atStart => exact ⟨0, Nat.zero_le _, rfl, by rw [HQ0.out]; simpa [natI, ints] using OQ.out, BQ.out⟩
                  case round =>
                    clear OQ BQ
                    obtain ⟨q, hq, rfl, own, hb⟩ := hrel
                    obtain ⟨wj, rfl⟩ : ∃ wj : World, wj = wr := ⟨_, rfl⟩
                    obtain ⟨Aq, cq, rfl, _⟩ := own_row own
                    by_cases hql : q < c
                    · have HHq := hide (HHI.out q _ (HRRL.out.below hb))
                      have hQSq := HQS.out q
                      have hQL := HQL.out q
                      have q0 : (0 : Int) ≤ (q : Int) := by omega
                      have q1 : (q : Int) < (c : Int) := by omega
                      cases hcon : S.lead.contains q with
                      | true =>
                        rw [hcon] at HHq hQSq
                        rw [if_pos rfl] at hQSq
                        have HQq := hide hQSq
                        have X1 := hide own
                        clear hQSq hcon own
                        go_wp2_with fail
                        refine HHq.out.mono ?_
                        rintro e w5 ⟨rfl, b5⟩
                        have X1 := hide (own_below X1.out b5)
                        have hb5 := below_then hb hb.size b5
                        go_wp2_with fail
                        exact ⟨⟨q + 1, hql, by go_num, by rw [HQq.out]; exact X1.out, hb5⟩, by simp [intOf]; omega⟩
                      | false =>
                        rw [hcon] at HHq hQSq
                        rw [if_neg (by simp)] at hQSq
                        have HQq := hide hQSq
                        have HPq := hide (fun w5 => HPW.out q (by omega) w5)
                        have HCOBq := hide (fun i => HCOB.out q (by omega) i)
                        have HCOSq := hide (HCOS.out q)
                        have HCO0q := hide (HCO0.out q)
                        have X1 := hide own
                        clear hQSq hcon own
                        go_wp2_with fail
                        refine HHq.out.mono ?_
                        rintro e w5 ⟨rfl, b5⟩
                        have X1 := hide (own_below X1.out b5)
                        have hb5 := below_then hb hb.size b5
                        clear hb b5
                        go_wp2_with fail
                        refine (HPq.out _).mono ?_
                        rintro e w6 ⟨rfl, rfl⟩
                        go_wp2_with fail
                        go_loopw [26, 27] (fun s i wk => ∃ i' : Nat, i' ≤ j ∧ i = .int .i64 (i' : Int) ∧ s = .int .i64 ((colTo S.rows S.lead q i' : Nat) : Int) ∧ wk.ownsRow wi.heap.size 3 1 (.slice Aq (quietTo S.rows S.lead q).length cq) (quietTo S.rows S.lead q).length (ints (natI (quietTo S.rows S.lead q))) ∧ Below wi.heap.size wi wk) (fun _ i _ => j - (intOf i).toNat)
                        case atStart => exact ⟨0, Nat.zero_le _, rfl, by rw [HCO0q.out]; push_cast; rfl, X1.out, hb5⟩
                        case round =>
                          clear X1 hb5
                          obtain ⟨i', hi', rfl, rfl, own, hb⟩ := hrel
                          obtain ⟨wk, rfl⟩ : ∃ wk : World, wk = wr := ⟨_, rfl⟩
                          by_cases hil : i' < j
                          · obtain ⟨ga, rfl⟩ := HHD.out (by omega)
                            obtain ⟨_, ⟨rfl⟩, k1⟩ := (HRR.out.below hb).int (k := i') (by rw [natI_len, HRL.out]; omega)
                            obtain ⟨_, ⟨rfl⟩, k2⟩ := (HRRL.out.below hb).int (k := i') (by rw [natI_len, HA.out]; exact hil)
                            rw [natI_at, add0] at k1 k2
                            have hrb := HRB.out i'
                            have hlb := HLEB.out i'
                            have hcb := HCOBq.out i'
                            have hCS := HCOSq.out i'
                            have hbt := bitN_two (S.rows[i']?.getD 0) q
                            have HPj := hide (fun w5 => HPW.out (S.lead[i']?.getD 0) hlb w5)
                            have HBj := hide (fun w5 => HBI.out (S.rows[i']?.getD 0) q (by omega) (by omega) w5)
                            obtain ⟨p1, p2⟩ := pow12 hlb
                            generalize S.rows[i']?.getD 0 = y at *
                            generalize S.lead[i']?.getD 0 = l at *
                            generalize colTo S.rows S.lead q i' = s at *
                            generalize 2 ^ l = P at *
                            generalize bitN y q = u at *
                            have hup : u * P ≤ 4096 := by
                              rcases hbt with h | h <;> rw [h] <;> omega
                            have hmul : ((u : Int) * (P : Int)) = ((u * P : Nat) : Int) := by rw [Int.natCast_mul]
                            have HSj := hide hCS
                            clear hCS hbt
                            generalize u * P = up at *
                            have e1 : IntKind.i64.wrap ((u : Int) * (P : Int)) = (up : Int) := (IntWalk.i64_in _ (by omega)).trans hmul
                            have e2 : IntKind.i64.wrap ((s : Int) + (up : Int)) = ((s + up : Nat) : Int) := (IntWalk.i64_in _ (by omega)).trans (by omega)
                            have j0 : (0 : Int) ≤ (i' : Int) := by omega
                            have j1 : (i' : Int) < (j : Int) := by omega
                            have j2 : (i' : Int) < (c : Int) := by omega
                            clear hmul
                            go_wp2_with fail
                            refine wp_region_still_tail 14 (by kernel_rfl) (by kernel_rfl) ?_
                            simp only [List.take_succ_cons, List.take_zero, List.drop_succ_cons, List.drop_zero]
                            repeat still_step
                            still_call ((HBj.out _).mono (fun _ _ h => ⟨h.1, h.2.symm⟩))
                            repeat still_step
                            still_call ((HPj.out _).mono (fun _ _ h => ⟨h.1, h.2.symm⟩))
                            repeat still_step
                            try refine wpStill_nil ?_
                            have X1 := hide own.drew
                            have X4 := hide hb.drew
                            change wpList _ _ _ _ _ wk.drew
                            clear own hb k1 k2
                            generalize wk.drew = wf at *
                            go_wp2_with fail
                            exact ⟨⟨i' + 1, hil, by go_num, by rw [HSj.out]; push_cast; rfl, X1.out, X4.out⟩, by simp [intOf]; omega⟩
                          · obtain rfl : i' = j := by omega
                            generalize hcc : colTo S.rows S.lead q i' = s at *
                            have HQq' : Hid (quietTo S.rows S.lead (q + 1) = quietTo S.rows S.lead q ++ [s]) := HQq
                            have X1 := hide (own.alloc (.cells #[.int .i64 (s : Int)] 3))
                            have X4 := hide (hb.alloc hb.size (.cells #[.int .i64 (s : Int)] 3))
                            clear own hb hcc HQq HCOBq HCOSq HCO0q
                            generalize quietTo S.rows S.lead q = T at *
                            go_wp2_with ((at_builtin; refine put_own rfl (.tmp 214) (.tmp 216) rfl Tryz.underlying35 elem_int' rfl X1.out rfl (m := 1) (news := [.int .i64 (s : Int)]) rfl (row_new _ _ _ rfl) (by simp [Value.oneCell']) (by omega) (by omega) X4.out.size ?_; intro v8 w8 own8 hg8 ho8))
                            rw [natI_put, ← HQq'.out] at own8
                            have Y4 := hide (below_grown X4.out X4.out.size X1.out (Nat.le_refl _) hg8)
                            have hll : T.length + 1 = (quietTo S.rows S.lead (q + 1)).length := by rw [HQq'.out]; simp
                            rw [hll] at own8
                            have Y1 := hide own8
                            clear own8 hll hg8 ho8 X1 X4
                            go_round
                            case rel => exact ⟨q + 1, hql, by go_num, Y1.out, Y4.out⟩
                            case measure => simp [intOf]; omega
                    · obtain rfl : q = c := by omega
                      have HF := hide (HFY.out _ wj HGOOD.out (own_mono own hzW) (below_then HBW.out hzW hb))
                      clear HFY own hb
                      go_wp2_with fail
                      exact HF.out
end Go.Proofs.YtmfdlijkpdgimaaGreatDoor
