
/-
  The program's guards: sizeOf, smallOf.
-/
import Derived.Test.YtdjkdjnbmhpokabPGuardA
import Derived.Test.YtdjkdjnbmhpokabGuardC
import Derived.Test.YtdjkdjnbmhpokabGuardD
import Derived.Test.YtdjkdjnbmhpokabMoveG
import Derived.OwnWalk
namespace Go.Proofs.Ytdjkdjnbmhpokab
open Go.RowKit
set_option linter.unusedVariables false

theorem pc9_lt : ∀ t : Fin 512, pcN 9 t.val ≤ 9 := by decide +kernel
theorem made_info {P : Program} {e : TypeId} {z : Value} {size bytes : Nat} (h : (P.info? e).map (fun i => (i.zero, i.size, i.bytes)) = some (some z, size, bytes)) : ∃ i, P.info? e = some i ∧ i.zero = some z ∧ i.size = size ∧ i.bytes = bytes := by
  cases hi : P.info? e with
  | none => simp [hi] at h
  | some i =>
    simp only [hi, Option.map_some, Option.some.injEq, Prod.mk.injEq] at h
    exact ⟨i, rfl, h.1, h.2.1, h.2.2⟩
theorem made_ints {w : World} {base : Nat} {e : TypeId} {v : Value} {n : Nat} {z : Value} (hz : z.cells = #[z]) (h : w.ownsRow base e 1 v n (madeCells z.cells (n * 1)).toList) : w.ownsRow base e 1 v n (List.replicate n z) := by
  rwa [hz, Nat.mul_one, toList_madeCells_one] at h

/-- The sum of what is reached is the set. -/
theorem or_reach {bc br : Int} {s : List UInt8} {ss : List (Int × Int)} {far : Bool} (hS : Small bc br) (hk : kindL s = some (ss, far)) (k : Nat) (hkn : (k : Int) < bc * br) : orL (reachP bc br far [] (k : Int) ss) = (setsP bc br far ss)[k]?.getD 0 := by
  obtain ⟨h1, h2, h3, h4, h9⟩ := hS
  obtain ⟨a, rfl⟩ : ∃ a : Nat, bc = ((a + 1 : Nat) : Int) := ⟨(bc - 1).toNat, by omega⟩
  obtain ⟨b, rfl⟩ : ∃ b : Nat, br = ((b + 1 : Nat) : Int) := ⟨(br - 1).toNat, by omega⟩
  have h9' : (a + 1) * (b + 1) ≤ 9 := by
    have : (((a + 1) * (b + 1) : Nat) : Int) ≤ 9 := by rw [Int.natCast_mul]; exact h9
    omega
  have hk' : k < (a + 1) * (b + 1) := by
    have : (k : Int) < (((a + 1) * (b + 1) : Nat) : Int) := by rw [Int.natCast_mul]; exact hkn
    omega
  have h := List.all_eq_true.1 (or_all ⟨a, by omega⟩ ⟨b, by omega⟩ h9') _ (kind_six6 hk)
  have h := List.all_eq_true.1 h k (List.mem_range.2 hk')
  rw [show reachP ((a + 1 : Nat) : Int) ((b + 1 : Nat) : Int) far [] (k : Int) ss = ascP (cellsP ((a + 1 : Nat) : Int) ((b + 1 : Nat) : Int) far [] (k : Int) ss) from (ascP_eq _).symm]
  rw [setsP, List.getElem?_map, show (((a + 1 : Nat) : Int) * ((b + 1 : Nat) : Int)).toNat = (a + 1) * (b + 1) by rw [← Int.natCast_mul]; rfl, List.getElem?_range hk']
  exact eq_of_beq h

/-- A row that is laid up to k. -/
def fillTo (l : List Int) (k : Nat) : List Int := l.take k ++ List.replicate (l.length - k) 0
theorem fill_zero (l : List Int) : fillTo l 0 = List.replicate l.length 0 := by simp [fillTo]
theorem fill_full (l : List Int) : fillTo l l.length = l := by simp [fillTo]
theorem fill_len (l : List Int) (k : Nat) (h : k ≤ l.length) : (fillTo l k).length = l.length := by simp [fillTo]; omega
theorem fill_set (l : List Int) (k : Nat) (h : k < l.length) : (fillTo l k).set k (l[k]?.getD 0) = fillTo l (k + 1) := by
  unfold fillTo
  obtain ⟨m, hm⟩ : ∃ m, l.length - k = m + 1 := ⟨l.length - k - 1, by omega⟩
  have hkl : (l.take k).length = k := by simp; omega
  rw [List.set_append_right _ _ (by omega), hkl, Nat.sub_self, hm, List.replicate_succ, List.set_cons_zero, show l.length - (k + 1) = m by omega, take_snoc _ _ h, List.append_assoc]
  rfl
theorem ints_setg (l : List Int) (i : Nat) (u : Int) : (ints l).set i (.int .i64 u) = ints (l.set i u) := by simp [ints, List.map_set]
theorem own_apart {w w' : World} {base e size n : Nat} {v : Value} {xs : List Value} {g : Nat} (h : w.ownsRow base e size v n xs) (hg : w.grownBy w' (some g)) (hne : v.ownBlock ≠ some g) : w'.ownsRow base e size v n xs := h.kept hg (.inr hne)

/-- The sets of a small board, and that it is small; or none. -/
def SmallIs (L : List Nat) (w : World) (e : Ending) (w' : World) : Prop := ∃ A c, e = .returned (.tuple #[.slice A L.length c, .bool true]) ∧ w'.ownsRow w.heap.size 3 1 (.slice A L.length c) L.length (ints (natI L)) ∧ Below w.heap.size w w'

set_option maxHeartbeats 1000000 in
set_option maxRecDepth 100000 in
theorem smallOf_no (bc br : Int) (s : ByteArray) (w : World) (h : smallK bc br s.toList = none) : Calls Try.prog 34 #[.int .i64 bc, .int .i64 br, .string s] w (Plain (.tuple #[.slice none 0 0, .bool false]) w) := by
  by_cases hb : Brd bc br ∧ (kindL s.toList).isSome = true
  · obtain ⟨⟨h1, h2, h3, h4⟩, hk⟩ := hb
    obtain ⟨⟨ss, far⟩, hk⟩ := Option.isSome_iff_exists.1 hk
    have h9 : 9 < bc * br := by
      unfold smallK at h
      split at h
      · rw [hk] at h; cases h
      · rename_i hS
        exact Int.not_le.1 fun x => hS ⟨h1, h2, h3, h4, x⟩
    have Hk := hide hk
    have HS := hide (fun w5 => size_c bc br w5 h1 h2 h3 h4)
    clear hk h
    generalize bc * br = n at *
    go_enter Try.func34, Try.ntmps34
    go_wp2_with fail
    refine (setUp_yes bc br s _ Hk.out h1 h2 h3 h4).mono ?_
    rintro e w1 ⟨pv, rfl, hp, hb⟩
    have bx := Box.new w1 54 #[.int .i64 bc, .int .i64 br]
    have hb := hb.alloc hb.size (.cells #[.int .i64 bc, .int .i64 br] 54)
    go_wp2_with fail
    refine (HS.out _).mono ?_
    rintro e w2 ⟨rfl, b2⟩
    have b2 := below_then hb hb.size b2
    go_wp2_with fail
    go_ret2
    exact ⟨rfl, b2⟩
  · have H := hide hb
    clear hb h
    go_enter Try.func34, Try.ntmps34
    go_wp2_with fail
    refine (setUp_no bc br s _ H.out).mono ?_
    rintro e w1 ⟨x, y, pv, rfl, hb⟩
    go_wp2_with fail
    go_ret2
    exact ⟨rfl, hb.alloc hb.size _⟩

set_option maxHeartbeats 1000000 in
set_option maxRecDepth 100000 in
theorem smallOf_yes (bc br : Int) (s : ByteArray) (w : World) {ss : List (Int × Int)} {far : Bool} (hk : kindL s.toList = some (ss, far)) (hS : Small bc br) :
    Calls Try.prog 34 #[.int .i64 bc, .int .i64 br, .string s] w (SmallIs (setsP bc br far ss) w) := by
  obtain ⟨k1, k2, k3⟩ := kind_ok hk
  obtain ⟨h9s, hlen⟩ := sets9_of hS hk
  have h9 := h9s.len
  have HX := hide (fun (k : Nat) (hkn : k < (setsP bc br far ss).length) => show ∃ R : List Int, R.length ≤ 1000 ∧ orL R = (setsP bc br far ss)[k]?.getD 0 ∧ (∀ i, i < R.length → 0 ≤ R[i]?.getD 0 ∧ R[i]?.getD 0 < 9) ∧
      ∀ (B : Nat) (pv : Value) (w5 : World), IsPiece w5 B pv ss far → Calls Try.prog _ #[boardV bc br, pv, .int .i64 (k : Int), .slice none 0 0] w5 (Owns 3 1 R.length (ints R) w5) by
    obtain ⟨h1, h2, h3, h4, h9'⟩ := hS
    refine ⟨reachP bc br far [] (k : Int) ss, ?_, or_reach ⟨h1, h2, h3, h4, h9'⟩ hk k (by omega), ?_, ?_⟩
    · have := reach_len bc br far [] (k : Int) ss
      omega
    · intro i hi
      have := reach_cells h1 h2 h3 h4 i hi
      omega
    · intro B pv w5 hp
      exact reach_c bc br (k : Int) B pv far none 0 ss [] w5 h1 h2 h3 h4 (by omega) (by omega) (hide k1) k2 hp (Row.empty _ _) (fun ad e => by cases e) (by simp [maxLen]))
  obtain ⟨h1, h2, h3, h4, h9'⟩ := hS
  have Hk := hide hk
  clear hk k1 k2
  have K3 := hide k3
  clear k3
  have hsize := hide (fun (w5 : World) => show Calls Try.prog 36 #[boardV bc br] w5 (Plain (.int .i64 ((setsP bc br far ss).length : Int)) w5) by
    have := size_c bc br w5 h1 h2 h3 h4; rwa [← hlen] at this)
  obtain ⟨i0, hi0, hz0, hz1, hz2⟩ := made_info (P := Try.prog) (e := 3) (z := .int .i64 0) (size := 1) (bytes := 8) (by kernel_rfl)
  have hpos : 1 ≤ (setsP bc br far ss).length := by
    have := (mul_bd h1 h2 h3 h4).1
    omega
  clear h9s hlen h9'
  generalize setsP bc br far ss = L at *
  have hnl := natI_len L
  go_enter Try.func34, Try.ntmps34
  go_wp2_with fail
  refine (setUp_yes bc br s _ Hk.out h1 h2 h3 h4).mono ?_
  rintro e w1 ⟨pv, rfl, hp, hb⟩
  have bx := Box.new w1 54 #[.int .i64 bc, .int .i64 br]
  have hp := hp.then ((Below.refl _ _).alloc (Nat.le_refl _) (.cells #[.int .i64 bc, .int .i64 br] 54))
  have hb := hb.alloc hb.size (.cells #[.int .i64 bc, .int .i64 br] 54)
  have z1 : w1.heap.size < (w1.alloc (.cells #[.int .i64 bc, .int .i64 br] 54)).heap.size := by simp
  go_wp2_with fail
  generalize w1.alloc (.cells #[.int .i64 bc, .int .i64 br] 54) = wa at *
  have c0 := bx.cell 0
  have c1 := bx.cell 1
  go_wp2_with fail
  refine (hsize.out _).mono ?_
  rintro e w2 ⟨rfl, b2⟩
  have bx := bx.then b2
  have hp := hp.then b2
  have hb := below_then hb hb.size b2
  have z1 : w1.heap.size < w2.heap.size := Nat.lt_of_lt_of_le z1 b2.size
  clear c0 c1 b2
  have c0 := bx.cell 0
  have c1 := bx.cell 1
  go_wp2_with fail
  refine (hsize.out _).mono ?_
  rintro e w3 ⟨rfl, b3⟩
  have bx := bx.then b3
  have hp := hp.then b3
  have hb := below_then hb hb.size b3
  have z1 : w1.heap.size < w3.heap.size := Nat.lt_of_lt_of_le z1 b3.size
  clear c0 c1 b3
  have hgz : w.heap.size ≤ w3.heap.size := hb.size
  obtain ⟨gp, cp, hpv, hrp, hgp⟩ := hp
  have HPV := hide hpv
  clear hpv
  have hgl : gp < w3.heap.size := by
    obtain ⟨ad, ⟨rfl⟩, hc⟩ := hrp 0 (by
      have := K3.out
      cases ss with
      | nil => simp at this
      | cons a l => simp [flat])
    have hb := World.block_lt_of_cell? w3 _ hc
    rwa [addr_block] at hb
  go_wp2_with ((at_make; refine wpList_make_full _ rfl (.tmp 29) (.tmp 29) 27 rfl w3.heap.size 3 i0 (.int .i64 0) 1 Try.underlying27 hi0 hz0 hz1 .i64 .i64 L.length L.length L.length rfl rfl rfl rfl (by rw [hz2]; omega) (by simp [maxLen]; omega) (Nat.le_refl _) ?_; intro w4 own4 hg4; have own4 := made_ints rfl own4; have bx := bx.grown hg4 (by simp); have hrp := hrp.grown hg4 (fun ad e h => by cases h); have hb := hb.grown hg4 hb.size (fun k h => by cases h); clear hg4))
  have hbg : w1.heap.size < w3.heap.size := z1
  generalize w3.heap.size = g at *
  go_loopw [33] (fun i wr => ∃ k : Nat, k ≤ L.length ∧ i = .int .i64 (k : Int) ∧ wr.ownsRow g 3 1 (.slice (some ⟨g, 0, none⟩) L.length L.length) L.length (ints (fillTo (natI L) k)) ∧ Below w.heap.size w wr ∧ Box wr w1.heap.size 54 #[.int .i64 bc, .int .i64 br] ∧ Row wr (some ⟨gp, 0, none⟩) (flat ss)) (fun i _ => L.length - (intOf i).toNat)
  case atStart => exact ⟨0, Nat.zero_le _, rfl, by rw [fill_zero, hnl]; simpa [ints] using own4, hb, bx, hrp⟩
  case round =>
    clear own4 hb bx hrp
    obtain ⟨k, hk, rfl, hown, hbr, bx, hrp⟩ := hrel
    obtain ⟨wo, rfl⟩ : ∃ wo : World, wo = wr := ⟨_, rfl⟩
    have zo := hbr.size
    have gl := (hown.lt g rfl).2
    by_cases hlt : k < L.length
    · obtain ⟨R, r1, r2, r3, r4⟩ := HX.out k hlt
      have R3 := hide r3
      have HR := hide (r4 w.heap.size pv wo ⟨gp, cp, HPV.out, hrp, hgp⟩)
      have c0 := bx.cell 0
      have c1 := bx.cell 1
      have HFS := hide (fill_set (natI L) k (by omega))
      clear r3 r4
      go_wp2_with fail
      refine HR.out.mono ?_
      rintro e w5 ⟨v5, rfl, o5, b5⟩
      obtain ⟨A5, c5, rfl, _⟩ := own_row o5
      have own5 := own_below hown b5
      have hb5 := below_then hbr hbr.size b5
      have bx5 := bx.then b5
      have hp5 := hrp.below b5
      clear c0 c1 hown hbr bx hrp b5
      go_wp2_with fail
      refine (sumOf_c _ _ R _ (own_reads o5) R3.out r1).mono ?_
      rintro e w6 ⟨rfl, rfl⟩
      rw [r2]
      have hx : (natI L)[k]?.getD 0 = ((L[k]?.getD 0 : Nat) : Int) := natI_at L k
      generalize L[k]?.getD 0 = x at *
      rw [hx] at HFS
      clear r2 hx
      have k0 : (0 : Int) ≤ (k : Int) := by omega
      have k1 : (k : Int) < (L.length : Int) := by omega
      have hcj := own5.cellAt k (by omega)
      obtain ⟨y, hy⟩ : ∃ y, (ints (fillTo (natI L) k))[k]? = some (.int .i64 y) := ⟨_, by rw [ints, List.getElem?_map, List.getElem?_eq_getElem (by rw [fill_len _ _ (by omega)]; omega)]; rfl⟩
      rw [hy] at hcj
      clear hy
      have hfj := own5.frozenAt k
      obtain ⟨ost, gst⟩ := own5.stored k (.int .i64 (x : Int))
      rw [ints_setg, HFS.out] at ost
      have S1 := hide ost
      have S2 := hide (hb5.grown gst hb5.size (fun n e => by injection e with e; omega))
      have S3 := hide (bx5.grown gst (by intro e; injection e with e; omega))
      have S4 := hide (hp5.grown gst (fun ad e h => by injection e with e; subst e; injection h with h; simp only at h; omega))
      clear ost gst own5 hb5 bx5 hp5 o5
      go_wp2_with fail
      exact ⟨⟨k + 1, hlt, by go_num, S1.out, S2.out, S3.out, S4.out⟩, by simp [intOf]; omega⟩
    · obtain rfl : k = L.length := by omega
      rw [← hnl, fill_full, hnl] at hown
      go_wp2_with fail
      go_ret2
      exact ⟨_, _, rfl, own_mono hown hgz, hbr⟩
end Go.Proofs.Ytdjkdjnbmhpokab
