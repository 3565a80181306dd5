/-
  PGuardA, PGuardB, PChaseA, PChaseF, PChaseG in one text.
-/
import Derived.Test.YtmfdlijkpdgimaaGreatDoorGuardM
import Derived.Test.YtmfdlijkpdgimaaGreatDoorMovesM
import Derived.OwnWalk
import Derived.Test.YtmfdlijkpdgimaaGreatDoorChasesM
import Derived.BigRegion
import Derived.Test.YtmfdlijkpdgimaaGreatDoorBitM
import Derived.BigQuiet
/-
  The program's guards: sumOf, isGuard, isLoose.
-/
namespace Go.Proofs.YtmfdlijkpdgimaaGreatDoor
open Go.RowKit
set_option linter.unusedVariables false

theorem shl9 (k : Nat) (h : k ≤ 9) : IntKind.i64.wrap ((2 : Int) ^ k) = ((2 ^ k : Nat) : Int) := by
  have := pow9 h
  rw [show ((2 : Int) ^ k) = ((2 ^ k : Nat) : Int) by push_cast; rfl]
  exact IntWalk.i64_in _ (by omega)
theorem orL_snoc (l : List Int) (k : Nat) (h : k < l.length) : orL (l.take (k + 1)) = orL (l.take k) ||| 2 ^ (l[k]?.getD 0).toNat := by
  unfold orL
  rw [take_snoc _ _ h, List.foldl_append]
  rfl
theorem orL_bd (l : List Int) (hl : ∀ i, i < l.length → 0 ≤ l[i]?.getD 0 ∧ l[i]?.getD 0 < 9) : ∀ k, k ≤ l.length → orL (l.take k) < 512
  | 0, _ => by simp [orL]
  | k + 1, h => by
    rw [orL_snoc _ _ (by omega)]
    obtain ⟨h2, h3⟩ := hl k (by omega)
    exact (i64_or9 _ _ (orL_bd l hl k (by omega)) (Nat.lt_of_le_of_lt (Nat.pow_le_pow_right (by omega) (by omega : (l[k]?.getD 0).toNat ≤ 8)) (by decide))).2

set_option maxHeartbeats 1000000 in
theorem sumOf_c (A : Option Addr) (c : Nat) (l : List Int) (w : World) (hr : Row w A (ints l)) (hl : ∀ i, i < l.length → 0 ≤ l[i]?.getD 0 ∧ l[i]?.getD 0 < 9) (hm : l.length ≤ 1000) :
    Calls Tryz.prog 133 #[.slice A l.length c] w fun e w' => e = .returned (.int .i64 ((orL l : Nat) : Int)) ∧ w = w' := by
  have HR := hide hr
  have HL := hide hl
  clear hr hl
  go_enter Tryz.func133, Tryz.ntmps133
  go_wp2_with fail
  go_loopw [3, 8] (fun a i wr => ∃ k : Nat, k ≤ l.length ∧ i = .int .i64 (k : Int) ∧ a = .int .i64 ((orL (l.take k) : Nat) : Int) ∧ w = wr) (fun _ i _ => l.length - (intOf i).toNat)
  case atStart => exact ⟨0, Nat.zero_le _, rfl, rfl, rfl⟩
  case round =>
    obtain ⟨k, hk, rfl, rfl, rfl⟩ := hrel
    by_cases hlt : k < l.length
    · obtain ⟨ad, rfl, hck⟩ := HR.out.int (k := k) hlt
      obtain ⟨x0, x1⟩ := HL.out k hlt
      have hbd := orL_bd l HL.out k hk
      have HS := hide (orL_snoc l k hlt)
      obtain ⟨x, hx⟩ : ∃ x : Nat, l[k]?.getD 0 = (x : Int) := ⟨(l[k]?.getD 0).toNat, by omega⟩
      rw [hx] at hck HS x0 x1
      rw [Int.toNat_natCast] at HS
      have es := shl9 x (by omega)
      have px := pow9 (n := x) (by omega)
      have px : 2 ^ x < 512 := Nat.lt_of_le_of_lt (Nat.pow_le_pow_right (by omega) (by omega : x ≤ 8)) (by decide)
      have eo := (i64_or9 _ _ hbd px).1
      generalize (2 ^ x : Nat) = P at *
      generalize orL (l.take k) = b at *
      have k0 : (0 : Int) ≤ (k : Int) := by omega
      have k1 : (k : Int) < (l.length : Int) := by omega
      clear hx
      go_wp2_with fail
      exact ⟨⟨k + 1, hlt, by go_num, by rw [HS.out], trivial⟩, by simp [intOf]; omega⟩
    · obtain rfl : k = l.length := by omega
      rw [List.take_length]
      go_wp2_with fail
      go_ret
      exact ⟨rfl, rfl⟩

theorem shr9 (s k : Nat) (hs : s < 512) : bits .and .i64 ((s : Int) / 2 ^ k) 1 = ((bitN s k : Nat) : Int) := by
  have h : s / 2 ^ k < 512 := Nat.lt_of_le_of_lt (Nat.div_le_self _ _) hs
  rw [show ((s : Int) / 2 ^ k) = ((s / 2 ^ k : Nat) : Int) by push_cast; rfl, show (1 : Int) = ((1 : Nat) : Int) from rfl, (i64_and9 _ 1 h (by omega)).1, Nat.and_one_is_mod]
  rfl

end Go.Proofs.YtmfdlijkpdgimaaGreatDoor

/-
  The program's guards: sizeOf, smallOf.
-/
namespace Go.Proofs.YtmfdlijkpdgimaaGreatDoor
open Go.RowKit
set_option linter.unusedVariables false

theorem pc9_lt : ∀ t : Fin 512, pcN 9 t.val ≤ 9 := by decide +kernel
set_option maxRecDepth 100000 in
theorem ones64_9 (t : Nat) (ht : t < 512) (w : World) : Calls Tryz.prog 138 #[.int .u64 (t : Int)] w fun e w' => e = .returned (.int .i64 ((pcN 9 t : Nat) : Int)) ∧ w = w' := by
  go_enter Tryz.func138, Tryz.ntmps138
  go_wp2_with fail
  go_ret
  refine ⟨?_, rfl⟩
  refine (show Ending.returned (.int .i64 _) = _ from ret_int (k := .i64) ?_)
  obtain ⟨t', rfl⟩ : ∃ t' : Fin 512, t'.val = t := ⟨⟨t, ht⟩, rfl⟩
  clear ht
  revert t'
  decide +kernel
theorem ones_9 (t : Nat) (ht : t < 512) (w : World) : Calls Tryz.prog 107 #[.int .u64 (t : Int)] w fun e w' => e = .returned (.int .i64 ((pcN 9 t : Nat) : Int)) ∧ w = w' := by
  have H := hide (fun w5 => ones64_9 t ht w5)
  go_enter Tryz.func107, Tryz.ntmps107
  go_wp2_with fail
  refine (H.out _).mono ?_
  rintro e w1 ⟨rfl, rfl⟩
  go_wp2_with fail
  go_ret
  exact ⟨rfl, rfl⟩
theorem sizeOf_9 (t : Nat) (ht : t < 512) (w : World) : Calls Tryz.prog 85 #[.int .i64 (t : Int)] w fun e w' => e = .returned (.int .i64 ((pcN 9 t : Nat) : Int)) ∧ w = w' := by
  have H := hide (fun w5 => ones_9 t ht w5)
  have e0 : IntKind.u64.wrap (t : Int) = (t : Int) := IntWalk.u64_in _ (by omega)
  go_enter Tryz.func85, Tryz.ntmps85
  go_wp2_with fail
  refine (H.out _).mono ?_
  rintro e w1 ⟨rfl, rfl⟩
  go_wp2_with fail
  go_ret
  exact ⟨rfl, rfl⟩

theorem made_info {P : Program} {e : TypeId} {z : Value} {size bytes : Nat} (h : (P.info? e).map (fun i => (i.zero, i.size, i.bytes)) = some (some z, size, bytes)) : ∃ i, P.info? e = some i ∧ i.zero = some z ∧ i.size = size ∧ i.bytes = bytes := by
  cases hi : P.info? e with
  | none => simp [hi] at h
  | some i =>
    simp only [hi, Option.map_some, Option.some.injEq, Prod.mk.injEq] at h
    exact ⟨i, rfl, h.1, h.2.1, h.2.2⟩
theorem made_ints {w : World} {base : Nat} {e : TypeId} {v : Value} {n : Nat} {z : Value} (hz : z.cells = #[z]) (h : w.ownsRow base e 1 v n (madeCells z.cells (n * 1)).toList) : w.ownsRow base e 1 v n (List.replicate n z) := by
  rwa [hz, Nat.mul_one, toList_madeCells_one] at h

/-- The sum of what is reached is the set. -/
theorem or_reach {bc br : Int} {s : List UInt8} {ss : List (Int × Int)} {far : Bool} (hS : Small bc br) (hk : kindL s = some (ss, far)) (k : Nat) (hkn : (k : Int) < bc * br) : orL (reachP bc br far [] (k : Int) ss) = (setsP bc br far ss)[k]?.getD 0 := by
  obtain ⟨h1, h2, h3, h4, h9⟩ := hS
  obtain ⟨a, rfl⟩ : ∃ a : Nat, bc = ((a + 1 : Nat) : Int) := ⟨(bc - 1).toNat, by omega⟩
  obtain ⟨b, rfl⟩ : ∃ b : Nat, br = ((b + 1 : Nat) : Int) := ⟨(br - 1).toNat, by omega⟩
  have h9' : (a + 1) * (b + 1) ≤ 9 := by
    have : (((a + 1) * (b + 1) : Nat) : Int) ≤ 9 := by rw [Int.natCast_mul]; exact h9
    omega
  have hk' : k < (a + 1) * (b + 1) := by
    have : (k : Int) < (((a + 1) * (b + 1) : Nat) : Int) := by rw [Int.natCast_mul]; exact hkn
    omega
  have h := List.all_eq_true.1 (or_all ⟨a, by omega⟩ ⟨b, by omega⟩ h9') _ (kind_six6 hk)
  have h := List.all_eq_true.1 h k (List.mem_range.2 hk')
  rw [show reachP ((a + 1 : Nat) : Int) ((b + 1 : Nat) : Int) far [] (k : Int) ss = ascP (cellsP ((a + 1 : Nat) : Int) ((b + 1 : Nat) : Int) far [] (k : Int) ss) from (ascP_eq _).symm]
  rw [setsP, List.getElem?_map, show (((a + 1 : Nat) : Int) * ((b + 1 : Nat) : Int)).toNat = (a + 1) * (b + 1) by rw [← Int.natCast_mul]; rfl, List.getElem?_range hk']
  exact eq_of_beq h

/-- A row that is laid up to k. -/
def fillTo (l : List Int) (k : Nat) : List Int := l.take k ++ List.replicate (l.length - k) 0
theorem fill_zero (l : List Int) : fillTo l 0 = List.replicate l.length 0 := by simp [fillTo]
theorem fill_full (l : List Int) : fillTo l l.length = l := by simp [fillTo]
theorem fill_len (l : List Int) (k : Nat) (h : k ≤ l.length) : (fillTo l k).length = l.length := by simp [fillTo]; omega
theorem fill_set (l : List Int) (k : Nat) (h : k < l.length) : (fillTo l k).set k (l[k]?.getD 0) = fillTo l (k + 1) := by
  unfold fillTo
  obtain ⟨m, hm⟩ : ∃ m, l.length - k = m + 1 := ⟨l.length - k - 1, by omega⟩
  have hkl : (l.take k).length = k := by simp; omega
  rw [List.set_append_right _ _ (by omega), hkl, Nat.sub_self, hm, List.replicate_succ, List.set_cons_zero, show l.length - (k + 1) = m by omega, take_snoc _ _ h, List.append_assoc]
  rfl
theorem ints_setg (l : List Int) (i : Nat) (u : Int) : (ints l).set i (.int .i64 u) = ints (l.set i u) := by simp [ints, List.map_set]
theorem own_apart {w w' : World} {base e size n : Nat} {v : Value} {xs : List Value} {g : Nat} (h : w.ownsRow base e size v n xs) (hg : w.grownBy w' (some g)) (hne : v.ownBlock ≠ some g) : w'.ownsRow base e size v n xs := h.kept hg (.inr hne)

/-- The sets of a small board, and that it is small; or none. -/
def SmallIs (L : List Nat) (w : World) (e : Ending) (w' : World) : Prop := ∃ A c, e = .returned (.tuple #[.slice A L.length c, .bool true]) ∧ w'.ownsRow w.heap.size 3 1 (.slice A L.length c) L.length (ints (natI L)) ∧ Below w.heap.size w w'

set_option maxHeartbeats 1000000 in
set_option maxRecDepth 100000 in
theorem smallOf_no (bc br : Int) (s : ByteArray) (w : World) (h : smallK bc br s.toList = none) : Calls Tryz.prog 113 #[.int .i64 bc, .int .i64 br, .string s] w (Plain (.tuple #[.slice none 0 0, .bool false]) w) := by
  by_cases hb : Brd bc br ∧ (kindL s.toList).isSome = true
  · obtain ⟨⟨h1, h2, h3, h4⟩, hk⟩ := hb
    obtain ⟨⟨ss, far⟩, hk⟩ := Option.isSome_iff_exists.1 hk
    have h9 : 9 < bc * br := by
      unfold smallK at h
      split at h
      · rw [hk] at h; cases h
      · rename_i hS
        exact Int.not_le.1 fun x => hS ⟨h1, h2, h3, h4, x⟩
    have Hk := hide hk
    have HS := hide (fun w5 => size_c bc br w5 h1 h2 h3 h4)
    clear hk h
    generalize bc * br = n at *
    go_enter Tryz.func113, Tryz.ntmps113
    go_wp2_with fail
    refine (setUp_yes bc br s _ Hk.out h1 h2 h3 h4).mono ?_
    rintro e w1 ⟨pv, rfl, hp, hb⟩
    have bx := Box.new w1 40 #[.int .i64 bc, .int .i64 br]
    have hb := hb.alloc hb.size (.cells #[.int .i64 bc, .int .i64 br] 40)
    go_wp2_with fail
    refine (HS.out _).mono ?_
    rintro e w2 ⟨rfl, b2⟩
    have b2 := below_then hb hb.size b2
    go_wp2_with fail
    go_ret2
    exact ⟨rfl, b2⟩
  · have H := hide hb
    clear hb h
    go_enter Tryz.func113, Tryz.ntmps113
    go_wp2_with fail
    refine (setUp_no bc br s _ H.out).mono ?_
    rintro e w1 ⟨x, y, pv, rfl, hb⟩
    go_wp2_with fail
    go_ret2
    exact ⟨rfl, hb.alloc hb.size _⟩

set_option maxHeartbeats 1000000 in
set_option maxRecDepth 100000 in
theorem smallOf_yes (bc br : Int) (s : ByteArray) (w : World) {ss : List (Int × Int)} {far : Bool} (hk : kindL s.toList = some (ss, far)) (hS : Small bc br) :
    Calls Tryz.prog 113 #[.int .i64 bc, .int .i64 br, .string s] w (SmallIs (setsP bc br far ss) w) := by
  obtain ⟨k1, k2, k3⟩ := kind_ok hk
  obtain ⟨h9s, hlen⟩ := sets9_of hS hk
  have h9 := h9s.len
  have HX := hide (fun (k : Nat) (hkn : k < (setsP bc br far ss).length) => show ∃ R : List Int, R.length ≤ 1000 ∧ orL R = (setsP bc br far ss)[k]?.getD 0 ∧ (∀ i, i < R.length → 0 ≤ R[i]?.getD 0 ∧ R[i]?.getD 0 < 9) ∧
      ∀ (B : Nat) (pv : Value) (w5 : World), IsPiece w5 B pv ss far → Calls Tryz.prog _ #[boardV bc br, pv, .int .i64 (k : Int), .slice none 0 0] w5 (Owns 3 1 R.length (ints R) w5) by
    obtain ⟨h1, h2, h3, h4, h9'⟩ := hS
    refine ⟨reachP bc br far [] (k : Int) ss, ?_, or_reach ⟨h1, h2, h3, h4, h9'⟩ hk k (by omega), ?_, ?_⟩
    · have := reach_len bc br far [] (k : Int) ss
      omega
    · intro i hi
      have := reach_cells h1 h2 h3 h4 i hi
      omega
    · intro B pv w5 hp
      exact reach_c bc br (k : Int) B pv far none 0 ss [] w5 h1 h2 h3 h4 (by omega) (by omega) (hide k1) k2 hp (Row.empty _ _) (fun ad e => by cases e) (by simp [maxLen]))
  obtain ⟨h1, h2, h3, h4, h9'⟩ := hS
  have Hk := hide hk
  clear hk k1 k2
  have K3 := hide k3
  clear k3
  have hsize := hide (fun (w5 : World) => show Calls Tryz.prog 84 #[boardV bc br] w5 (Plain (.int .i64 ((setsP bc br far ss).length : Int)) w5) by
    have := size_c bc br w5 h1 h2 h3 h4; rwa [← hlen] at this)
  obtain ⟨i0, hi0, hz0, hz1, hz2⟩ := made_info (P := Tryz.prog) (e := 3) (z := .int .i64 0) (size := 1) (bytes := 8) (by kernel_rfl)
  have hpos : 1 ≤ (setsP bc br far ss).length := by
    have := (mul_bd h1 h2 h3 h4).1
    omega
  clear h9s hlen h9'
  generalize setsP bc br far ss = L at *
  have hnl := natI_len L
  go_enter Tryz.func113, Tryz.ntmps113
  go_wp2_with fail
  refine (setUp_yes bc br s _ Hk.out h1 h2 h3 h4).mono ?_
  rintro e w1 ⟨pv, rfl, hp, hb⟩
  have bx := Box.new w1 40 #[.int .i64 bc, .int .i64 br]
  have hp := hp.then ((Below.refl _ _).alloc (Nat.le_refl _) (.cells #[.int .i64 bc, .int .i64 br] 40))
  have hb := hb.alloc hb.size (.cells #[.int .i64 bc, .int .i64 br] 40)
  have z1 : w1.heap.size < (w1.alloc (.cells #[.int .i64 bc, .int .i64 br] 40)).heap.size := by simp
  go_wp2_with fail
  generalize w1.alloc (.cells #[.int .i64 bc, .int .i64 br] 40) = wa at *
  have c0 := bx.cell 0
  have c1 := bx.cell 1
  go_wp2_with fail
  refine (hsize.out _).mono ?_
  rintro e w2 ⟨rfl, b2⟩
  have bx := bx.then b2
  have hp := hp.then b2
  have hb := below_then hb hb.size b2
  have z1 : w1.heap.size < w2.heap.size := Nat.lt_of_lt_of_le z1 b2.size
  clear c0 c1 b2
  have c0 := bx.cell 0
  have c1 := bx.cell 1
  go_wp2_with fail
  refine (hsize.out _).mono ?_
  rintro e w3 ⟨rfl, b3⟩
  have bx := bx.then b3
  have hp := hp.then b3
  have hb := below_then hb hb.size b3
  have z1 : w1.heap.size < w3.heap.size := Nat.lt_of_lt_of_le z1 b3.size
  clear c0 c1 b3
  have hgz : w.heap.size ≤ w3.heap.size := hb.size
  obtain ⟨gp, cp, hpv, hrp, hgp⟩ := hp
  have HPV := hide hpv
  clear hpv
  have hgl : gp < w3.heap.size := by
    obtain ⟨ad, ⟨rfl⟩, hc⟩ := hrp 0 (by
      have := K3.out
      cases ss with
      | nil => simp at this
      | cons a l => simp [flat])
    have hb := World.block_lt_of_cell? w3 _ hc
    rwa [addr_block] at hb
  go_wp2_with ((at_make; refine wpList_make_full _ rfl (.tmp 29) (.tmp 29) 35 rfl w3.heap.size 3 i0 (.int .i64 0) 1 Tryz.underlying35 hi0 hz0 hz1 .i64 .i64 L.length L.length L.length rfl rfl rfl rfl (by rw [hz2]; omega) (by simp [maxLen]; omega) (Nat.le_refl _) ?_; intro w4 own4 hg4; have own4 := made_ints rfl own4; have bx := bx.grown hg4 (by simp); have hrp := hrp.grown hg4 (fun ad e h => by cases h); have hb := hb.grown hg4 hb.size (fun k h => by cases h); clear hg4))
  have hbg : w1.heap.size < w3.heap.size := z1
  generalize w3.heap.size = g at *
  go_loopw [33] (fun i wr => ∃ k : Nat, k ≤ L.length ∧ i = .int .i64 (k : Int) ∧ wr.ownsRow g 3 1 (.slice (some ⟨g, 0, none⟩) L.length L.length) L.length (ints (fillTo (natI L) k)) ∧ Below w.heap.size w wr ∧ Box wr w1.heap.size 40 #[.int .i64 bc, .int .i64 br] ∧ Row wr (some ⟨gp, 0, none⟩) (flat ss)) (fun i _ => L.length - (intOf i).toNat)
  case atStart => exact ⟨0, Nat.zero_le _, rfl, by rw [fill_zero, hnl]; simpa [ints] using own4, hb, bx, hrp⟩
  case round =>
    clear own4 hb bx hrp
    obtain ⟨k, hk, rfl, hown, hbr, bx, hrp⟩ := hrel
    obtain ⟨wo, rfl⟩ : ∃ wo : World, wo = wr := ⟨_, rfl⟩
    have zo := hbr.size
    have gl := (hown.lt g rfl).2
    by_cases hlt : k < L.length
    · obtain ⟨R, r1, r2, r3, r4⟩ := HX.out k hlt
      have R3 := hide r3
      have HR := hide (r4 w.heap.size pv wo ⟨gp, cp, HPV.out, hrp, hgp⟩)
      have c0 := bx.cell 0
      have c1 := bx.cell 1
      have HFS := hide (fill_set (natI L) k (by omega))
      clear r3 r4
      go_wp2_with fail
      refine HR.out.mono ?_
      rintro e w5 ⟨v5, rfl, o5, b5⟩
      obtain ⟨A5, c5, rfl, _⟩ := own_row o5
      have own5 := own_below hown b5
      have hb5 := below_then hbr hbr.size b5
      have bx5 := bx.then b5
      have hp5 := hrp.below b5
      clear c0 c1 hown hbr bx hrp b5
      go_wp2_with fail
      refine (sumOf_c _ _ R _ (own_reads o5) R3.out r1).mono ?_
      rintro e w6 ⟨rfl, rfl⟩
      rw [r2]
      have hx : (natI L)[k]?.getD 0 = ((L[k]?.getD 0 : Nat) : Int) := natI_at L k
      generalize L[k]?.getD 0 = x at *
      rw [hx] at HFS
      clear r2 hx
      have k0 : (0 : Int) ≤ (k : Int) := by omega
      have k1 : (k : Int) < (L.length : Int) := by omega
      have hcj := own5.cellAt k (by omega)
      obtain ⟨y, hy⟩ : ∃ y, (ints (fillTo (natI L) k))[k]? = some (.int .i64 y) := ⟨_, by rw [ints, List.getElem?_map, List.getElem?_eq_getElem (by rw [fill_len _ _ (by omega)]; omega)]; rfl⟩
      rw [hy] at hcj
      clear hy
      have hfj := own5.frozenAt k
      obtain ⟨ost, gst⟩ := own5.stored k (.int .i64 (x : Int))
      rw [ints_setg, HFS.out] at ost
      have S1 := hide ost
      have S2 := hide (hb5.grown gst hb5.size (fun n e => by injection e with e; omega))
      have S3 := hide (bx5.grown gst (by intro e; injection e with e; omega))
      have S4 := hide (hp5.grown gst (fun ad e h => by injection e with e; subst e; injection h with h; simp only at h; omega))
      clear ost gst own5 hb5 bx5 hp5 o5
      go_wp2_with fail
      exact ⟨⟨k + 1, hlt, by go_num, S1.out, S2.out, S3.out, S4.out⟩, by simp [intOf]; omega⟩
    · obtain rfl : k = L.length := by omega
      rw [← hnl, fill_full, hnl] at hown
      go_wp2_with fail
      go_ret2
      exact ⟨_, _, rfl, own_mono hown hgz, hbr⟩
end Go.Proofs.YtmfdlijkpdgimaaGreatDoor

/-
  The program's chases: takes, isMet, noEscape, hasTurn.
-/
namespace Go.Proofs.YtmfdlijkpdgimaaGreatDoor
open Go.RowKit
set_option linter.unusedVariables false

theorem bit_test1 (s k : Nat) : (bitN s k == 1) = s.testBit k := by
  rw [Nat.testBit_eq_decide_div_mod_eq, Bool.eq_iff_iff, beq_iff_eq, decide_eq_true_eq]
  exact Iff.rfl
/-- The sets with their own cells. -/
def nearS (L : List Nat) : List Nat := (List.range L.length).map fun i => L[i]?.getD 0 ||| 2 ^ i
theorem nearS_len (L : List Nat) : (nearS L).length = L.length := by simp [nearS]
theorem nearS_at {L : List Nat} {i : Nat} (hi : i < L.length) : (nearS L)[i]?.getD 0 = L[i]?.getD 0 ||| 2 ^ i := by
  rw [nearS, List.getElem?_map, List.getElem?_range hi]
  rfl
theorem nearS_bd {L : List Nat} (h : Sets9 L) {i : Nat} (hi : i < L.length) : (nearS L)[i]?.getD 0 < 512 := by
  rw [nearS_at hi]
  have := h.len
  exact (i64_or9 _ _ (h.bd i) (Nat.lt_of_le_of_lt (Nat.pow_le_pow_right (by omega) (by omega : i ≤ 8)) (by decide))).2
theorem near_bit {L : List Nat} {i : Nat} (hi : i < L.length) (x : Nat) : (bitN ((nearS L)[i]?.getD 0) x == 1) = nearN L i x := by
  rw [nearS_at hi, bit_test1, Nat.testBit_or, Nat.testBit_two_pow, nearN, bit_test1, Bool.or_comm]
  congr 1
  rw [Bool.eq_iff_iff, decide_eq_true_eq, beq_iff_eq]
  exact eq_comm
/-- Wherever the other one goes, of the first y cells, it is a catch. -/
def escTo (L : List Nat) (P : Nat → Nat → Bool) (k x : Nat) : Nat → Bool
  | 0 => true
  | y + 1 => escTo L P k x y && !(nearN L k y && !P x y)
/-- A turn to one of the first x cells does it. -/
def turnTo (L : List Nat) (P : Nat → Nat → Bool) (i k : Nat) : Nat → Bool
  | 0 => false
  | x + 1 => turnTo L P i k x || (nearN L i x && (x == k || escTo L P k x L.length))
theorem escTo_no {L : List Nat} {P : Nat → Nat → Bool} {k x y : Nat} (h : escTo L P k x y = false) : ∀ m, escTo L P k x (y + m) = false
  | 0 => h
  | m + 1 => by
    show (escTo L P k x (y + m) && _) = false
    rw [escTo_no h m]
    rfl
theorem turnTo_yes {L : List Nat} {P : Nat → Nat → Bool} {i k x : Nat} (h : turnTo L P i k x = true) : ∀ m, turnTo L P i k (x + m) = true
  | 0 => h
  | m + 1 => by
    show (turnTo L P i k (x + m) || _) = true
    rw [turnTo_yes h m]
    rfl
abbrev placeV (h o : Nat) : Value := .agg #[.int .i64 (h : Int), .int .i64 (o : Int)]

end Go.Proofs.YtmfdlijkpdgimaaGreatDoor

/-
  The program's chases: chaseOf.
-/
namespace Go.Proofs.YtmfdlijkpdgimaaGreatDoor
open Go.RowKit
set_option linter.unusedVariables false
set_option maxRecDepth 100000

/-- The sets with the own cells of the first k of them. -/
def mixTo (L : List Nat) (k : Nat) : List Nat := (nearS L).take k ++ L.drop k
theorem mix_none (L : List Nat) : mixTo L 0 = L := by simp [mixTo]
theorem mix_all (L : List Nat) : mixTo L L.length = nearS L := by
  unfold mixTo
  rw [← nearS_len L, List.take_length, nearS_len, List.drop_length, List.append_nil]
theorem mix_len (L : List Nat) {k : Nat} (h : k ≤ L.length) : (mixTo L k).length = L.length := by
  simp [mixTo, nearS_len]
  omega
theorem mix_at (L : List Nat) {k : Nat} (h : k < L.length) : (mixTo L k)[k]?.getD 0 = L[k]?.getD 0 := by
  unfold mixTo
  rw [List.getElem?_append_right (by simp [nearS_len]; omega)]
  simp [nearS_len, Nat.min_eq_left (Nat.le_of_lt h)]
theorem mix_set (L : List Nat) {k : Nat} (h : k < L.length) : (mixTo L k).set k (L[k]?.getD 0 ||| 2 ^ k) = mixTo L (k + 1) := by
  unfold mixTo
  have hk : ((nearS L).take k).length = k := by simp [nearS_len]; omega
  rw [List.set_append_right _ _ (by omega), hk, Nat.sub_self, List.drop_eq_getElem_cons h, List.set_cons_zero, List.take_succ_eq_append_getElem (by rw [nearS_len]; exact h), List.append_assoc]
  congr 1
  have := nearS_at h
  rw [List.getElem?_eq_getElem (by rw [nearS_len]; exact h), Option.getD_some] at this
  rw [this]
  rfl
/-- The chase of a small board, or none. -/
def ChaseIs (L : List Nat) (w : World) (e : Ending) (w' : World) : Prop := ∃ A c, e = .returned (.tuple #[.slice A L.length c, .bool true]) ∧ w'.ownsRow w.heap.size 3 1 (.slice A L.length c) L.length (ints (natI (nearS L))) ∧ Below w.heap.size w w'
set_option maxHeartbeats 1000000 in
theorem chaseOf_no (bc br : Int) (s : ByteArray) (w : World) (h : smallK bc br s.toList = none) : Calls Tryz.prog 111 #[.int .i64 bc, .int .i64 br, .string s] w (Plain (.tuple #[.slice none 0 0, .bool false]) w) := by
  have H := hide (smallOf_no bc br s w h)
  clear h
  go_enter Tryz.func111, Tryz.ntmps111
  go_wp2_with fail
  refine H.out.mono ?_
  rintro e w1 ⟨rfl, b1⟩
  go_wp2_with fail
  go_loopw [20] (fun v wr => v = .int .i64 0 ∧ w1 = wr) (fun _ _ => 0)
  case atStart => exact ⟨rfl, rfl⟩
  case round =>
    obtain ⟨rfl, rfl⟩ := hrel
    go_wp2_with fail
    go_ret2
    exact ⟨rfl, b1⟩
set_option maxHeartbeats 2000000 in
theorem chaseOf_yes (bc br : Int) (s : ByteArray) (w : World) {ss : List (Int × Int)} {far : Bool} (hk : kindL s.toList = some (ss, far)) (hS : Small bc br) :
    Calls Tryz.prog 111 #[.int .i64 bc, .int .i64 br, .string s] w (ChaseIs (setsP bc br far ss) w) := by
  have H := hide (smallOf_yes bc br s w hk hS)
  obtain ⟨h9s, _⟩ := sets9_of hS hk
  have h9 := h9s.len
  clear hk hS
  generalize setsP bc br far ss = L at *
  have HMN := hide (mix_none L)
  have HMA := hide (mix_all L)
  have HML := hide (fun k (h : k ≤ L.length) => mix_len L h)
  have HMT := hide (fun k (h : k < L.length) => mix_at L h)
  have HMS := hide (fun k (h : k < L.length) => mix_set L h)
  have HBD := hide h9s.bd
  clear h9s
  go_enter Tryz.func111, Tryz.ntmps111
  go_wp2_with fail
  refine H.out.mono ?_
  rintro e w1 ⟨A1, c1, rfl, o1, b1⟩
  clear H
  go_wp2_with fail
  generalize mixTo L = M at *
  go_loopw [20] (fun v wr => ∃ k : Nat, k ≤ L.length ∧ v = .int .i64 (k : Int) ∧ wr.ownsRow w.heap.size 3 1 (.slice A1 L.length c1) L.length (ints (natI (M k))) ∧ Below w.heap.size w wr) (fun v _ => L.length - (intOf v).toNat)
  case atStart => exact ⟨0, Nat.zero_le _, rfl, by rw [HMN.out]; exact o1, b1⟩
  case round =>
    clear o1 b1
    obtain ⟨k, hk, rfl, hown, hb⟩ := hrel
    obtain ⟨wo, rfl⟩ : ∃ wo : World, wo = wr := ⟨_, rfl⟩
    by_cases hlt : k < L.length
    · have hml := HML.out k hk
      have hmt := HMT.out k hlt
      have hms := hide (HMS.out k hlt)
      have hbd := HBD.out k
      have hpk : 2 ^ k < 512 := Nat.lt_of_le_of_lt (Nat.pow_le_pow_right (by omega) (by omega : k ≤ 8)) (by decide)
      have es := shl9 k (by omega)
      obtain ⟨ga, ca, ea, _, _, hrow, _, _⟩ := own_one hown (by omega)
      injection ea with ea _ ec
      subst ea
      subst ec
      obtain ⟨_, ⟨rfl⟩, hck⟩ := hrow.int (k := k) (by rw [natI_len, hml]; exact hlt)
      rw [natI_at, hmt, show (⟨ga, 0, none⟩ : Addr).add k = ⟨ga, k, none⟩ by unfold Addr.add; split <;> simp_all] at hck
      generalize L[k]?.getD 0 = x at *
      obtain ⟨eo, ho⟩ := i64_or9 x (2 ^ k) hbd hpk
      generalize 2 ^ k = P at *
      have hfk := hown.frozenAt k
      obtain ⟨ost, gst⟩ := hown.stored k (.int .i64 ((x ||| P : Nat) : Int))
      have hset : (ints (natI (M k))).set k (.int .i64 ((x ||| P : Nat) : Int)) = ints (natI (M (k + 1))) := by
        rw [ints_setg, ← hms.out]
        congr 1
        simp [natI, List.map_set]
      rw [hset] at ost
      have S1 := hide ost
      have S2 := hide (hb.grown gst hb.size (fun n e => by have := (hown.lt n e).1; omega))
      generalize x ||| P = y at *
      have k0 : (0 : Int) ≤ (k : Int) := by omega
      have k1 : (k : Int) < (L.length : Int) := by omega
      have k9 : (k : Int) ≤ 64 := by omega
      have HLT := hide hlt
      clear hms ost gst hset hown hrow hml hmt hb
      go_wp2_with fail
      go_region
      all_goals go_wp2_with fail
      exact ⟨⟨k + 1, HLT.out, by go_num, S1.out, S2.out.drew⟩, by simp [intOf]; omega⟩
    · obtain rfl : k = L.length := by omega
      rw [HMA.out] at hown
      go_wp2_with fail
      go_ret2
      exact ⟨_, _, rfl, hown, hb⟩
end Go.Proofs.YtmfdlijkpdgimaaGreatDoor

/-
  The program's chases: firstFold, FoldOrder.
-/
namespace Go.Proofs.YtmfdlijkpdgimaaGreatDoor
open Go.RowKit
set_option linter.unusedVariables false
set_option maxRecDepth 100000

theorem fold_lt {L : List Nat} {l : Nat} : ∀ {n i}, firstTo L l n = some i → i < n ∧ fitTo L l i L.length = true
  | 0, i, h => by cases h
  | n + 1, i, h => by
    unfold firstTo at h
    cases hf : firstTo L l n with
    | some x =>
      rw [hf] at h
      injection h with h
      subst h
      obtain ⟨h1, h2⟩ := fold_lt hf
      exact ⟨by omega, h2⟩
    | none =>
      rw [hf] at h
      simp only at h
      split at h
      · rename_i h2
        injection h with h
        subst h
        exact ⟨by omega, h2⟩
      · cases h
theorem fit_left {L : List Nat} {l i : Nat} : ∀ {k}, fitTo L l i k = true → bitN l i = 1
  | 0, h => by cases h
  | k + 1, h => by
    rcases (Bool.or_eq_true _ _).mp (show (fitTo L l i k || fitF L l i k) = true from h) with h | h
    · exact fit_left h
    · unfold fitF at h
      simp only [Bool.and_eq_true] at h
      exact beq_iff_eq.1 h.1.1.2
theorem fold_bit {L : List Nat} {l n i : Nat} (h : firstTo L l n = some i) : i < n ∧ 2 ^ i ≤ l := ⟨(fold_lt h).1, bit_le (fit_left (fold_lt h).2)⟩
set_option maxHeartbeats 400000 in
theorem allOf9_c (n : Nat) (hn : n ≤ 9) (w : World) : Calls Tryz.prog 104 #[.int .i64 (n : Int)] w fun e w' => e = .returned (.int .i64 ((2 ^ n - 1 : Nat) : Int)) ∧ w = w' := by
  have es := shl9 n hn
  obtain ⟨p1, p2⟩ := pow9 hn
  generalize (2 ^ n : Nat) = P at *
  have e1 : IntKind.i64.wrap ((P : Int) - 1) = ((P - 1 : Nat) : Int) := (IntWalk.i64_in _ (by omega)).trans (by omega)
  have hn0 : (n : Int) ≤ 64 := by omega
  obtain ⟨q, hq⟩ : ∃ q, P - 1 = q := ⟨_, rfl⟩
  rw [hq] at e1 ⊢
  clear hq
  go_enter Tryz.func104, Tryz.ntmps104
  go_wp2_with fail
  go_ret
  exact ⟨rfl, rfl⟩
theorem two_pow_lt9 {i : Nat} (h : i < 9) : 2 ^ i < 512 := Nat.lt_of_le_of_lt (Nat.pow_le_pow_right (by omega) (by omega : i ≤ 8)) (by decide)
/-- Both cells are left. -/
theorem both_left {l i k : Nat} : ((l &&& (2 ^ i ||| 2 ^ k)) == (2 ^ i ||| 2 ^ k)) = (bitN l i == 1 && bitN l k == 1) := by
  rw [bit_test1, bit_test1, Bool.eq_iff_iff, beq_iff_eq, Bool.and_eq_true]
  constructor
  · intro h
    have key : ∀ j, (2 ^ i ||| 2 ^ k).testBit j = true → l.testBit j = true := fun j hj => by
      rw [← h, Nat.testBit_and, Bool.and_eq_true] at hj
      exact hj.1
    exact ⟨key i (by simp [Nat.testBit_or, Nat.testBit_two_pow]), key k (by simp [Nat.testBit_or, Nat.testBit_two_pow])⟩
  · rintro ⟨h1, h2⟩
    refine Nat.eq_of_testBit_eq fun j => ?_
    rw [Nat.testBit_and]
    cases hj : (2 ^ i ||| 2 ^ k).testBit j with
    | false => rw [Bool.and_false]
    | true =>
      rw [Nat.testBit_or, Nat.testBit_two_pow, Nat.testBit_two_pow, Bool.or_eq_true, decide_eq_true_eq, decide_eq_true_eq] at hj
      rcases hj with rfl | rfl
      · rw [h1]; rfl
      · rw [h2]; rfl
theorem fit_is {L : List Nat} {l i k : Nat} (hi : i < L.length) (hk : k < L.length) : fitF L l i k = (i != k && ((l &&& (2 ^ i ||| 2 ^ k)) == (2 ^ i ||| 2 ^ k)) && ((((nearS L)[i]?.getD 0 &&& l) - (((nearS L)[i]?.getD 0 &&& l) &&& (nearS L)[k]?.getD 0)) == 0)) := by
  unfold fitF
  rw [both_left, nearS_at hi, nearS_at hk, Bool.and_assoc (i != k)]
  congr 1
  have hle : ((L[i]?.getD 0 ||| 2 ^ i) &&& l) &&& (L[k]?.getD 0 ||| 2 ^ k) ≤ ((L[i]?.getD 0 ||| 2 ^ i) &&& l) := Nat.and_le_left
  rw [Bool.eq_iff_iff, beq_iff_eq, beq_iff_eq]
  omega
/-- What firstFold answers. -/
def foldV1 : Option Nat → Value
  | some i => .tuple #[.int .i64 (i : Int), .bool true]
  | none => .tuple #[.int .i64 0, .bool false]
set_option maxHeartbeats 4000000 in
theorem firstFold_c (A : Option Addr) (c l : Nat) (L : List Nat) (W : World) (hL : Sets9 L) (hl : l < 512) (hr : Row W A (ints (natI (nearS L)))) :
    Calls Tryz.prog 112 #[.slice A L.length c, .int .i64 (l : Int)] W (Plain (foldV1 (firstTo L l L.length)) W) := by
  have h9 := hL.len
  have HR := hide hr
  have HBD := hide (fun i (hi : i < L.length) => nearS_bd hL hi)
  have HFI := hide (fun i k (hi : i < L.length) (hk : k < L.length) => fit_is (l := l) hi hk)
  have HFS : Hid (∀ i k, fitTo L l i (k + 1) = (fitTo L l i k || fitF L l i k)) := fun i k => rfl
  have HHERE := hide (fun i k (hi : i < L.length) (hk : k < L.length) (h0 : firstTo L l i = none) (h : fitTo L l i (k + 1) = true) => first_here rfl hi h0 (fit_all h (by omega)))
  have HNOT := hide (fun i (h0 : firstTo L l i = none) (h : fitTo L l i L.length = false) => first_not rfl h0 h)
  have hlen := nearS_len L
  have HLI := hide (natI_len (nearS L))
  clear hL hr
  go_enter Tryz.func112, Tryz.ntmps112
  go_wp2_with fail
  go_loopw [11] (fun v wr => ∃ i : Nat, i ≤ L.length ∧ v = .int .i64 (i : Int) ∧ Hid (firstTo L l i = none) ∧ Below W.heap.size W wr) (fun v _ => L.length - (intOf v).toNat)
  case atStart => exact ⟨0, Nat.zero_le _, rfl, rfl, Below.refl _ _⟩
  case round =>
    obtain ⟨i, hi, rfl, hfi, hb⟩ := hrel
    obtain ⟨wo, rfl⟩ : ∃ wo : World, wo = wr := ⟨_, rfl⟩
    by_cases hlt : i < L.length
    · have i1 : (i : Int) < (L.length : Int) := by omega
      have HLT := hide hlt
      go_wp2_with fail
      go_loopw [16] (fun v wr => ∃ k : Nat, k ≤ L.length ∧ v = .int .i64 (k : Int) ∧ Hid (fitTo L l i k = false) ∧ Below W.heap.size W wr) (fun v _ => L.length - (intOf v).toNat)
      case atStart => exact ⟨0, Nat.zero_le _, rfl, rfl, hb⟩
      case round =>
        clear hb
        obtain ⟨k, hk, rfl, hfk, hb⟩ := hrel
        obtain ⟨wi, rfl⟩ : ∃ wi : World, wi = wr := ⟨_, rfl⟩
        by_cases hkl : k < L.length
        · have k1 : (k : Int) < (L.length : Int) := by omega
          have HKL := hide hkl
          have hrw := HR.out.below hb
          obtain ⟨ad, rfl, hci⟩ := hrw.int (k := i) (by rw [HLI.out, hlen]; exact hlt)
          obtain ⟨_, ⟨rfl⟩, hck⟩ := hrw.int (k := k) (by rw [HLI.out, hlen]; exact hkl)
          rw [natI_at] at hci hck
          have bi := HBD.out i hlt
          have bk := HBD.out k hkl
          have hfit := HFI.out i k hlt hkl
          have hfs := HFS.out i k
          rw [hfk.out, Bool.false_or, hfit] at hfs
          have hhere := hide (HHERE.out i k hlt hkl hfi.out)
          have esi := shl9 i (by omega)
          have esk := shl9 k (by omega)
          have p9i := two_pow_lt9 (i := i) (by omega)
          have p9k := two_pow_lt9 (i := k) (by omega)
          obtain ⟨eo, bo⟩ := i64_or9 _ _ p9i p9k
          obtain ⟨ea, ba⟩ := i64_and9 l _ hl bo
          generalize (nearS L)[i]?.getD 0 = mi at *
          generalize (nearS L)[k]?.getD 0 = mk at *
          obtain ⟨en, bn⟩ := i64_and9 mi l bi hl
          have enn := i64_andNotC (mi &&& l) mk bn bk
          generalize mi &&& l = x at *
          generalize x - (x &&& mk) = y at *
          generalize l &&& (2 ^ i ||| 2 ^ k) = d at *
          generalize 2 ^ i ||| 2 ^ k = q at *
          generalize (2 ^ i : Nat) = pi at *
          generalize (2 ^ k : Nat) = pk at *
          have i0 : (0 : Int) ≤ (i : Int) := by omega
          have k0 : (0 : Int) ≤ (k : Int) := by omega
          have i9 : (i : Int) ≤ 64 := by omega
          have k9 : (k : Int) ≤ 64 := by omega
          clear hfit bi bk p9i p9k bo ba bn hrw hlen
          by_cases hik : i = k
          · have tik : ((i : Int) != (k : Int)) = false := by rw [bne_eq_false_iff_eq]; omega
            have HV : Hid (fitTo L l i (k + 1) = false) := by show _ = _; rw [hfs, hik]; simp
            clear hfs hhere
            go_wp2_with fail
            go_quiet (fail)
            all_goals go_wp2_with fail
            go_quiet (fail)
            all_goals go_wp2_with fail
            exact ⟨⟨k + 1, HKL.out, by go_num, HV.out, below_drewN hb _⟩, by simp [intOf]; omega⟩
          · have tik : ((i : Int) != (k : Int)) = true := by rw [bne_iff_ne]; omega
            have nik : (i != k) = true := bne_iff_ne.2 hik
            rw [nik, Bool.true_and] at hfs
            by_cases hdq : d = q
            · subst hdq
              have tdq : ((d : Int) == (d : Int)) = true := by simp
              have ndq : (d == d) = true := by simp
              rw [ndq, Bool.true_and] at hfs
              by_cases hy : y = 0
              · subst hy
                have HF := hide (hhere.out (by rw [hfs]; rfl))
                have HV := hide (show foldV1 (firstTo L l L.length) = .tuple #[.int .i64 (i : Int), .bool true] by rw [HF.out]; rfl)
                clear hfs hhere ndq nik hik HF
                go_wp2_with fail
                go_quiet (fail)
                all_goals go_wp2_with fail
                go_quiet (fail)
                all_goals go_wp2_with fail
                go_ret2
                exact ⟨by rw [HV.out]; rfl, below_drewN (below_drewN hb _) _⟩
              · have ty : ((y : Int) == 0) = false := by rw [beq_eq_false_iff_ne]; omega
                have ny : (y == 0) = false := beq_eq_false_iff_ne.2 hy
                rw [ny] at hfs
                have HV := hide hfs
                clear hfs hhere ndq nik hik ny hy
                go_wp2_with fail
                go_quiet (fail)
                all_goals go_wp2_with fail
                go_quiet (fail)
                all_goals go_wp2_with fail
                exact ⟨⟨k + 1, HKL.out, by go_num, HV.out, below_drewN hb _⟩, by simp [intOf]; omega⟩
            · have tdq : ((d : Int) == (q : Int)) = false := by rw [beq_eq_false_iff_ne]; omega
              have ndq : (d == q) = false := beq_eq_false_iff_ne.2 hdq
              rw [ndq, Bool.false_and] at hfs
              have HV := hide hfs
              clear hfs hhere ndq nik hik hdq
              go_wp2_with fail
              go_quiet (fail)
              all_goals go_wp2_with fail
              go_quiet (fail)
              all_goals go_wp2_with fail
              exact ⟨⟨k + 1, HKL.out, by go_num, HV.out, below_drewN hb _⟩, by simp [intOf]; omega⟩
        · obtain rfl : k = L.length := by omega
          have HN := hide (HNOT.out i hfi.out hfk.out)
          go_wp2_with fail
          exact ⟨⟨i + 1, HLT.out, by go_num, HN.out, hb⟩, by simp [intOf]; omega⟩
    · obtain rfl : i = L.length := by omega
      have HV := hide (show foldV1 (firstTo L l L.length) = .tuple #[.int .i64 0, .bool false] by rw [hfi.out]; rfl)
      go_wp2_with fail
      go_ret2
      exact ⟨by rw [HV.out]; rfl, hb⟩
theorem and_bit {l i : Nat} (h : bitN l i = 1) : l &&& 2 ^ i = 2 ^ i := by
  have hb : l.testBit i = true := by rw [← bit_test1, h]; rfl
  refine Nat.eq_of_testBit_eq fun j => ?_
  rw [Nat.testBit_and, Nat.testBit_two_pow]
  by_cases e : i = j
  · subst e
    rw [hb]
    rfl
  · rw [decide_eq_false e, Bool.and_false]
/-- One fold. -/
theorem fold_step {L F : List Nat} {n f l : Nat} {rest out : List Nat} (hn : L.length = n) (hff : foldFrom L f l = some rest) (ho : out ++ rest = F) (hl : out.length + f = n + 1) :
    (firstTo L l n = none → out = F) ∧ (∀ i, firstTo L l n = some i → ∃ f' rest', f = f' + 1 ∧ foldFrom L f' (l - 2 ^ i) = some rest' ∧ (out ++ [i]) ++ rest' = F ∧ (out ++ [i]).length + f' = n + 1) := by
  cases f with
  | zero => cases hff
  | succ f =>
    constructor
    · intro h
      unfold foldFrom at hff
      rw [hn, h] at hff
      injection hff with hff
      rw [← ho, ← hff, List.append_nil]
    · intro i h
      unfold foldFrom at hff
      rw [hn, h] at hff
      simp only [Option.map_eq_some_iff] at hff
      obtain ⟨r2, h1, h2⟩ := hff
      exact ⟨f, r2, rfl, h1, by rw [← ho, ← h2]; simp, by simp; omega⟩
def cellI : Option Nat → Int
  | some i => (i : Int)
  | none => 0
theorem foldV1_is (o : Option Nat) : foldV1 o = .tuple #[.int .i64 (cellI o), .bool o.isSome] := by cases o <;> rfl
set_option maxHeartbeats 4000000 in
theorem implFoldOrder_c (bc br : Int) (s : ByteArray) (W : World) : Calls Tryz.prog 88 #[.int .i64 bc, .int .i64 br, .string s] W (Owns 3 1 (foldV bc br s.toList).length (ints (natI (foldV bc br s.toList))) W) := by
  unfold foldV
  cases hk : smallK bc br s.toList with
  | none =>
    have H := hide (chaseOf_no bc br s W hk)
    clear hk
    go_enter Tryz.func88, Tryz.ntmps88
    go_wp2_with fail
    refine H.out.mono ?_
    rintro e w1 ⟨rfl, b1⟩
    go_wp2_with fail
    go_ret
    exact ⟨_, rfl, World.ownsRow_nil _ _ _ _, b1⟩
  | some p =>
    obtain ⟨ss, far⟩ := p
    obtain ⟨hS, hkk⟩ := smallK_some hk
    have H := hide (chaseOf_yes bc br s W hkk hS)
    obtain ⟨n, hC⟩ := chase_of hS hkk
    have h9s := hC.sets
    have hlen := hC.len
    have hn9 := hC.nine
    have hn1 := hC.one
    have hff := fold_from hlen hC.tab
    simp only
    clear hk hS hkk hC
    generalize setsP bc br far ss = L at *
    generalize foldN L = F at *
    subst hlen
    have HAL := hide (fun w5 => allOf9_c L.length hn9 w5)
    have HFF := hide (fun (A : Option Addr) (c l : Nat) (w5 : World) (hl : l < 512) (hr : Row w5 A (ints (natI (nearS L)))) => by
      have := firstFold_c A c l L w5 h9s hl hr
      rwa [foldV1_is] at this)
    have HST := hide (fun (f l : Nat) (rest out : List Nat) (h1 : foldFrom L f l = some rest) (h2 : out ++ rest = F) (h3 : out.length + f = L.length + 1) => fold_step rfl h1 h2 h3)
    have HBI := hide (fun (l i : Nat) (h : firstTo L l L.length = some i) => show i < L.length ∧ 2 ^ i ≤ l ∧ l &&& 2 ^ i = 2 ^ i from ⟨(fold_bit h).1, (fold_bit h).2, and_bit (fit_left (fold_lt h).2)⟩)
    obtain ⟨p1, p2⟩ := pow9 hn9
    clear h9s
    have HL0 := hide hff
    have hl0 : 2 ^ L.length - 1 < 512 := by omega
    generalize 2 ^ L.length - 1 = l0 at *
    go_enter Tryz.func88, Tryz.ntmps88
    go_wp2_with fail
    refine H.out.mono ?_
    rintro e w1 ⟨A1, c1, rfl, o1, b1⟩
    clear hff
    obtain ⟨g1, _, ea, _, _, _, _, hg1⟩ := own_one o1 (by omega)
    injection ea with ea _ _
    subst ea
    have R1 := hide (own_reads o1)
    clear o1
    go_wp2_with fail
    refine (HAL.out _).mono ?_
    rintro e w2 ⟨rfl, rfl⟩
    go_wp2_with fail
    refine (HFF.out _ _ l0 _ hl0 R1.out).mono ?_
    rintro e w3 ⟨rfl, b3⟩
    have b13 := below_then b1 b1.size b3
    have R3 := hide (R1.out.below b3)
    have hg13 : g1 < w3.heap.size := Nat.lt_of_lt_of_le hg1 b3.size
    have hz3 := b13.size
    clear b1 b3 R1 hg1
    go_wp2_with fail
    go_loopw [9, 10, 11, 12] (fun v lv cv fv wr => ∃ (l f : Nat) (out rest : List Nat), l < 512 ∧ lv = .int .i64 (l : Int) ∧ cv = .int .i64 (cellI (firstTo L l L.length)) ∧ fv = .bool (firstTo L l L.length).isSome ∧ Hid (foldFrom L f l = some rest ∧ out ++ rest = F ∧ out.length + f = L.length + 1) ∧
      wr.ownsRow w3.heap.size 3 1 v out.length (ints (natI out)) ∧ Row wr (some ⟨g1, 0, none⟩) (ints (natI (nearS L))) ∧ Below W.heap.size W wr ∧ w3.heap.size ≤ wr.heap.size) (fun _ lv _ _ _ => (intOf lv).toNat)
    case atStart => exact ⟨l0, L.length + 1, [], F, hl0, rfl, rfl, rfl, ⟨HL0.out, rfl, by simp⟩, World.ownsRow_nil _ _ _ _, R3.out, b13, Nat.le_refl _⟩
    case round =>
      clear b13 R3 HL0 hl0
      obtain ⟨l, f, out, rest, hl, rfl, rfl, rfl, hst, hown, hrow, hb, hz⟩ := hrel
      obtain ⟨wo, rfl⟩ : ∃ wo : World, wo = wr := ⟨_, rfl⟩
      obtain ⟨A0, c0, rfl, _⟩ := own_row hown
      obtain ⟨s1, s2⟩ := HST.out f l rest out hst.out.1 hst.out.2.1 hst.out.2.2
      have hol : out.length ≤ 10 := by have := hst.out.2.2; omega
      clear hst
      cases hft : firstTo L l L.length with
      | none =>
        have he := s1 hft
        subst he
        clear s2 hft
        go_wp2_with fail
        go_ret
        exact ⟨_, rfl, own_mono hown hz3, hb⟩
      | some i =>
        obtain ⟨f', rest', _, g1, g2, g3⟩ := s2 i hft
        obtain ⟨hi, hle, hand⟩ := HBI.out l i hft
        have HG : Hid (foldFrom L f' (l - 2 ^ i) = some rest' ∧ (out ++ [i]) ++ rest' = F ∧ (out ++ [i]).length + f' = L.length + 1) := ⟨g1, g2, g3⟩
        have es := shl9 i (by omega)
        have enn := i64_andNotC l (2 ^ i) hl (two_pow_lt9 (i := i) (by omega))
        rw [hand] at enn
        have hpos : 1 ≤ 2 ^ i := Nat.one_le_two_pow
        have hsub : l - 2 ^ i < l := by omega
        obtain ⟨l2, hl2⟩ : ∃ l2, l - 2 ^ i = l2 := ⟨_, rfl⟩
        rw [hl2] at enn HG hsub
        have i0 : (0 : Int) ≤ (i : Int) := by omega
        have i9 : (i : Int) ≤ 64 := by omega
        have hci : cellI (some i) = (i : Int) := rfl
        have hsi : (some i).isSome = true := rfl
        rw [hci, hsi]
        generalize (2 ^ i : Nat) = P at *
        have hvc := hown.alloc (.cells #[.int .i64 (i : Int)] 3)
        have hbc := hb.alloc hb.size (.cells #[.int .i64 (i : Int)] 3)
        have hrc := hrow.alloc (.cells #[.int .i64 (i : Int)] 3)
        have hzc : w3.heap.size ≤ (wo.alloc (.cells #[.int .i64 (i : Int)] 3)).heap.size := by simp; omega
        clear s1 s2 g1 g2 g3 hft hle hand hl2 hci hsi hown hb hrow
        go_wp2_with ((at_builtin; go_loud (refine put_own rfl (.tmp 38) (.tmp 40) rfl Tryz.underlying35 elem_int rfl hvc rfl (m := 1) (news := [.int .i64 (i : Int)]) rfl (row_new _ _ _ (by first | rfl | simp)) (by simp [Value.oneCell']) (by omega) (by omega) hzc ?_; intro v9 w9 own9 hg9 ho9; have hz9 := Nat.le_trans hzc hg9.size; have hr9 := hrc.grown hg9 (fun ad e h => by injection e with e; subst e; have := (hvc.lt g1 h).1; omega); have hb9 := below_grown hbc hbc.size hvc hz3 hg9; clear hg9 ho9)))
        refine (HFF.out _ _ l2 _ (by omega) hr9).mono ?_
        rintro e w5 ⟨rfl, b5⟩
        go_wp2_with fail
        exact ⟨⟨l2, f', out ++ [i], rest', by omega, rfl, rfl, rfl, HG.out, by rw [List.length_append]; exact own_below (by simpa [natI, ints] using own9) b5, hr9.below b5, below_then hb9 hb9.size b5, Nat.le_trans hz9 b5.size⟩, by simp [intOf]; omega⟩
end Go.Proofs.YtmfdlijkpdgimaaGreatDoor
