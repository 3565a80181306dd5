/-
  PDeskC, PDeskD, PDeskE in one text.
-/
import Derived.Test.YtmfdlijkpdgimaaGreatDoorPDeskM
import Derived.Test.YtmfdlijkpdgimaaGreatDoorPTilesM
import Derived.Test.YtmfdlijkpdgimaaGreatDoorShelf
import Derived.Lib.AppendIntMem
import Derived.Test.YtmfdlijkpdgimaaGreatDoorDeskJ
import Derived.Test.YtmfdlijkpdgimaaGreatDoorMovesM
import Derived.Test.YtmfdlijkpdgimaaGreatDoorPLightsM
import Derived.Test.YtmfdlijkpdgimaaGreatDoorPPegsM
import Derived.Test.YtmfdlijkpdgimaaGreatDoorPChasesM
import Derived.Deep.RegionHeld3
/-
  The desk of the program: what its calls lean on (TabZ); a builder is written; numbersBehind; textOf.
-/
namespace Go.Proofs.YtmfdlijkpdgimaaGreatDoor
open Go.RowKit
set_option linter.unusedVariables false

/-- What the desk's calls read of the package-level variables. -/
structure TabZ (W : World) : Prop where
  bits : Tab W
  pows : Lib.TabIs Tryz.prog W "internal/strconv.uint64pow10" .u64 Lib.pow10Tab
  syn : ∃ te pe, W.cell? ⟨3, 0, none⟩ = some (.iface te pe)
  rng : ∃ te pe, W.cell? ⟨4, 0, none⟩ = some (.iface te pe)
  what : ∃ v, W.cell? ⟨1, 0, none⟩ = some (.iface 230 v)
  et : W.cell? ⟨0, 0, none⟩ = some (.iface 108 (.agg #[.pointer (some ⟨10, 45, none⟩)]))
  ml : ∃ m, W.cell? ⟨2, 0, none⟩ = some (.int .i64 m)
theorem cell_lt {W : World} {p : Addr} {v : Value} (h : W.cell? p = some v) : p.block < W.heap.size := by
  rcases Nat.lt_or_ge p.block W.heap.size with h' | h'
  · exact h'
  · simp [World.cell?, Array.getElem?_eq_none h'] at h
theorem gb_trans {a b c : World} {row : Option Nat} (h : a.grownBy b row) (k : b.grownBy c row) : a.grownBy c row := ⟨k.os.trans h.os, k.tape.trans h.tape, k.output.trans h.output, Nat.le_trans h.size k.size, fun i hi hr => (k.block i (Nat.lt_of_lt_of_le hi h.size) hr).trans (h.block i hi hr)⟩
theorem gb_below {w w' : World} (hb : Below w.heap.size w w') (row : Option Nat) : w.grownBy w' row := ⟨hb.os, hb.tape, hb.output, hb.size, fun i hi _ => hb.block i hi⟩
theorem TabZ.same {W W' : World} (h : TabZ W) (hs : W.heap.size ≤ W'.heap.size) (hk : ∀ k, k < W.heap.size → k < 10 → W'.heap[k]? = W.heap[k]?) : TabZ W' := by
  have hc : ∀ {g i : Nat} {v : Value}, g < 10 → W.cell? ⟨g, i, none⟩ = some v → W'.cell? ⟨g, i, none⟩ = some v := fun {g i v} hg hv => by
    have e : W'.cell? ⟨g, i, none⟩ = W.cell? ⟨g, i, none⟩ := World.cell?_of_block (w := W) (hk g (cell_lt hv) hg)
    rw [e, hv]
  exact {
    bits := fun r hr => hc (by decide) (h.bits r hr)
    pows := by
      have hp := h.pows
      unfold Lib.TabIs World.var? at hp ⊢
      rw [show Tryz.prog.globalNamed "internal/strconv.uint64pow10" = some 7 by kernel_rfl] at hp ⊢
      simp only [Option.bind_some] at hp ⊢
      rcases Nat.lt_or_ge 7 W.heap.size with h7 | h7
      · rw [hk 7 h7 (by decide)]
        exact hp
      · rw [Array.getElem?_eq_none h7] at hp
        cases hp
    syn := let ⟨te, pe, hv⟩ := h.syn; ⟨te, pe, hc (by decide) hv⟩
    rng := let ⟨te, pe, hv⟩ := h.rng; ⟨te, pe, hc (by decide) hv⟩
    what := let ⟨v, hv⟩ := h.what; ⟨v, hc (by decide) hv⟩
    et := hc (by decide) h.et
    ml := let ⟨m, hv⟩ := h.ml; ⟨m, hc (by decide) hv⟩ }
theorem TabZ.below {W W' : World} (h : TabZ W) (hb : Below W.heap.size W W') : TabZ W' := h.same hb.size fun k hk _ => hb.block k hk
theorem TabZ.grown {W W' : World} {g : Nat} (h : TabZ W) (hb : W.grownBy W' (some g)) (hg : 10 ≤ g) : TabZ W' :=
  h.same hb.size fun k hk h10 => hb.block k hk (fun e => by injection e with e; omega)

/-- (*strings.Builder).WriteString. -/
theorem write_c (B b : Nat) (bs : List Value) (s : ByteArray) (w : World) (h : Lib.IsBuilder 43 5 B b bs w) (hlen : bs.length + s.size ≤ 140737488355328) (hBw : B ≤ w.heap.size) :
    Calls Tryz.prog 18 #[.pointer (some ⟨b, 0, none⟩), .string s] w fun e w' => e = .returned (.tuple #[.int .i64 s.size, .nilIface]) ∧ (Lib.BuilderAt 43 5 B b (.pointer (some ⟨b, 0, none⟩)) (bs ++ Lib.strCells s) w' ∧ Below B w w') :=
  Any.Builder_WriteString ({ Tryz.lays156 with } : Lays.n166 Tryz.prog Tryz.lays156_ren) Tryz.Builder_Extra_156 B b bs s w h hlen hBw

theorem numbersBehind_c (s : ByteArray) (w : World) : Calls Tryz.prog 56 #[.string s] w fun e w' => e = .returned (.int .i64 (needN s.toList : Int)) ∧ w = w' := by
  by_cases k1 : s.toList = kTile
  · have q1 : (s.toList == [116, 105, 108, 101]) = true := by rw [k1]; rfl
    have hN : needN s.toList = 0 := by rw [k1]; decide
    rw [hN]
    clear k1
    go_enter Tryz.func56, Tryz.ntmps56
    go_wp2_with fail
    go_ret
    exact ⟨rfl, rfl⟩
  have q1 : (s.toList == [116, 105, 108, 101]) = false := beq_eq_false_iff_ne.2 k1
  by_cases k2 : s.toList = kFold
  · have q2 : (s.toList == [102, 111, 108, 100]) = true := by rw [k2]; rfl
    have hN : needN s.toList = 0 := by rw [k2]; decide
    rw [hN]
    clear k1 k2
    go_enter Tryz.func56, Tryz.ntmps56
    go_wp2_with fail
    go_ret
    exact ⟨rfl, rfl⟩
  have q2 : (s.toList == [102, 111, 108, 100]) = false := beq_eq_false_iff_ne.2 k2
  by_cases k3 : s.toList = kBoard
  · have q3 : (s.toList == [98, 111, 97, 114, 100]) = true := by rw [k3]; rfl
    have hN : needN s.toList = 2 := by rw [k3]; decide
    rw [hN]
    clear k1 k2 k3
    go_enter Tryz.func56, Tryz.ntmps56
    go_wp2_with fail
    go_ret
    exact ⟨rfl, rfl⟩
  have q3 : (s.toList == [98, 111, 97, 114, 100]) = false := beq_eq_false_iff_ne.2 k3
  have hN : needN s.toList = 1 := by unfold needN; rw [if_neg (fun h => h.elim k1 k2), if_neg k3]
  rw [hN]
  clear k1 k2 k3
  go_enter Tryz.func56, Tryz.ntmps56
  go_wp2_with fail
  go_ret
  exact ⟨rfl, rfl⟩

theorem itoa_c (n : Int) (hn : small18 n) (w : World) (hT : TabZ w) : Calls Tryz.prog 66 #[.int .i64 n] w (Plain (.string (numB n)) w) :=
  (Tryz.strconv_Itoa n (by have := hn.1; omega) (by have := hn.2; omega) w hT.pows).mono fun e w' ⟨he, k, os, hw⟩ => ⟨by rw [he, num_arr hn], hw ▸ Lib.below_grow _ w (Nat.le_refl _) k os⟩
theorem join_c (bk c : Nat) (xs : List ByteArray) (w : World) (hr : Row w (some ⟨bk, 0, none⟩) (strsV xs)) (hbk : bk < w.heap.size) (hN : xs.length ≤ 1000) (hcap : xs.length ≤ c) (hlen : (Lib.join (xs.map (·.data.toList)) [44]).length ≤ 140737488355328) :
    Calls Tryz.prog 101 #[.slice (some ⟨bk, 0, none⟩) xs.length c, .string ⟨#[44]⟩] w (Plain (.string ⟨(Lib.join (xs.map (·.data.toList)) [44]).toArray⟩) w) :=
  Tryz.strings_Join bk 0 c xs ⟨#[44]⟩ w (fun j x hx => by
    obtain ⟨hj, rfl⟩ := List.getElem?_eq_some_iff.1 hx
    obtain ⟨ad, e, hc⟩ := hr j (by simpa [strsV] using hj)
    injection e with e
    subst e
    have ha : (Addr.add ⟨bk, 0, none⟩ j) = (⟨bk, 0 + j, none⟩ : Addr) := by
      unfold Addr.add
      split <;> simp_all
    rw [ha] at hc
    rw [hc]
    simp [strsV]) hbk (by omega) hcap hlen
/-- textOf: numbers in decimal, with a comma between two. -/
theorem nums_join (L : List Int) (hx : ∀ i, i < L.length → small18 (L[i]?.getD 0)) : Lib.join ((L.map numB).map (·.data.toList)) [44] = (listB L L.length).data.toList := by
  rw [list_join L hx L.length (Nat.le_refl _), List.take_length, List.map_map]
  congr 1
  refine List.map_congr_left fun x hm => ?_
  obtain ⟨i, hi, rfl⟩ := List.mem_iff_getElem.1 hm
  have := hx i hi
  rw [List.getElem?_eq_getElem hi, Option.getD_some] at this
  exact num_data this
theorem map_take (L : List Int) {k : Nat} (hk : k < L.length) : (L.map numB).take (k + 1) = (L.map numB).take k ++ [numB (L[k]?.getD 0)] := by
  rw [List.take_succ_eq_append_getElem (by simpa using hk), List.getElem_map, List.getElem?_eq_getElem hk, Option.getD_some]
set_option maxHeartbeats 1000000 in
theorem textOf_c (A : Option Addr) (c : Nat) (L : List Int) (w : World) (hr : Row w A (ints L)) (hm : L.length ≤ 1000) (hx : ∀ i, i < L.length → small18 (L[i]?.getD 0)) (hT : TabZ w) :
    Calls Tryz.prog 77 #[.slice A L.length c] w (Plain (.string (listB L L.length)) w) := by
  have HJ := hide (nums_join L hx)
  have HSz := hide (list_size L L.length)
  have HI := hide (fun (k : Nat) (hk : k < L.length) w5 (h5 : Below w.heap.size w w5) => itoa_c (L[k]?.getD 0) (hx k hk) w5 (hT.below h5))
  have HM := hide (fun (k : Nat) (hk : k < L.length) => map_take L hk)
  have HA : Hid ((L.map numB).take L.length = L.map numB) := List.take_of_length_le (by simp)
  have HR := hide hr
  obtain ⟨W, hW⟩ : ∃ W, L.map numB = W := ⟨_, rfl⟩
  have hWl : W.length = L.length := by rw [← hW]; simp
  rw [hW] at HJ HM HA
  generalize hn : L.length = n at *
  clear hT hx hr hW
  go_enter Tryz.func77, Tryz.ntmps77
  go_wp2_with fail
  go_loopw [3, 8] (fun v iv wr => ∃ k : Nat, k ≤ n ∧ iv = .int .i64 (k : Int) ∧ wr.ownsRow w.heap.size 9 1 v k (strsV (W.take k)) ∧ Below w.heap.size w wr) (fun _ iv _ => n - (intOf iv).toNat)
  case atStart => exact ⟨0, Nat.zero_le _, rfl, World.ownsRow_nil _ _ _ _, Below.refl _ _⟩
  case round =>
    obtain ⟨k, hk, rfl, hown, hb⟩ := hrel
    obtain ⟨wo, rfl⟩ : ∃ wo : World, wo = wr := ⟨_, rfl⟩
    by_cases hlt : k < n
    · obtain ⟨ad, rfl, hca⟩ := (HR.out.below hb).int (k := k) (by omega)
      have HIk := hide (HI.out k hlt)
      have HMk := hide (HM.out k hlt)
      have OW := hide hown
      have HB := hide hb
      obtain ⟨A1, c1, rfl, hc1, hc2, _⟩ := own_row hown
      clear HI HM HJ HSz hown hb
      generalize L[k]?.getD 0 = x at *
      generalize numB x = y at *
      go_wp2_with fail
      refine (HIk.out _ HB.out).mono ?_
      rintro e w5 ⟨rfl, b5⟩
      have O5 := hide (own_below OW.out b5)
      have B5 := hide (below_then HB.out HB.out.size b5)
      clear HIk OW HB b5
      have oe := O5.out.alloc (.cells #[.string y] 9)
      have be := B5.out.alloc B5.out.size (.cells #[.string y] 9)
      go_wp2_with (first
        | (at_builtin; refine put_own rfl (.tmp 12) (.tmp 15) rfl Tryz.underlying23 elem_str rfl oe rfl (m := 1) (news := [.string y]) rfl (row_new _ _ _ rfl) (by simp [Value.oneCell']) (by omega) (by omega) be.size ?_
           intro v3 w3 own3 hg3 ho3
           have b3 := below_grown be be.size oe (Nat.le_refl _) hg3
           obtain ⟨A3, c3, rfl, _, _, _, _⟩ := own_row own3))
      exact ⟨⟨k + 1, hlt, by go_num, by rw [HMk.out]; simpa [strsV] using own3, b3⟩, by simp [intOf]; omega⟩
    · obtain rfl : k = n := by omega
      obtain ⟨A1, c1, rfl, hc1, hc2, hrw, hg1⟩ := own_row hown
      rw [HA.out] at hrw
      have HB := hide hb
      cases A1 with
      | none =>
        have h0 : W.length = 0 := by
          rcases Nat.eq_zero_or_pos W.length with h | h
          · exact h
          · obtain ⟨_, e, _⟩ := hrw 0 (by simpa [strsV] using h)
            cases e
        have HN := hide (fun w5 => Tryz.strings_Join_none none c1 ⟨#[44]⟩ w5)
        obtain rfl : k = 0 := by omega
        obtain rfl : W = [] := List.length_eq_zero_iff.1 h0
        have hJ : (⟨#[]⟩ : ByteArray) = listB L 0 := by
          have := HJ.out
          exact ByteArray.ext (Array.toList_inj.1 this)
        clear HI HM HA hrw hg1 HR
        go_wp2_with fail
        refine (HN.out _).mono ?_
        rintro e w6 ⟨rfl, rfl⟩
        go_wp2_with fail
        go_ret
        exact ⟨by rw [← hJ]; rfl, HB.out⟩
      | some ad =>
        obtain ⟨g1, rfl, hg2, hg3, _⟩ := hg1 ad rfl
        have HC := hide (join_c g1 c1 W wo hrw hg3 (by omega) (by omega) (by
          rw [HJ.out]
          have := HSz.out
          have h2 := size_list (listB L k)
          omega))
        rw [HJ.out, hWl] at HC
        clear HI HM HA hrw hg1 HR HJ
        go_wp2_with fail
        refine HC.out.mono ?_
        rintro e w6 ⟨rfl, b6⟩
        go_wp2_with fail
        go_ret
        exact ⟨rfl, below_then HB.out HB.out.size b6⟩
end Go.Proofs.YtmfdlijkpdgimaaGreatDoor

/-
  The desk of the program: the answers of its commands.
-/
namespace Go.Proofs.YtmfdlijkpdgimaaGreatDoor
open Go.RowKit
set_option linter.unusedVariables false

/-- The desk's board at g, the numbers of a line, what calls lean on; nothing that was there at W0 has turned. -/
structure DeskW (W0 : World) (g : Nat) (bw bh : Int) (A : Option Addr) (L : List Int) (W : World) : Prop where
  tab : TabZ W
  brd : Box W g 40 #[.int .i64 bw, .int .i64 bh]
  nums : Row W A (ints L)
  bel : Below W0.heap.size W0 W
section
variable {W0 W W' : World} {g : Nat} {bw bh : Int} {A : Option Addr} {L : List Int}
theorem DeskW.then (h : DeskW W0 g bw bh A L W) (hb : Below W.heap.size W W') : DeskW W0 g bw bh A L W' :=
  ⟨h.tab.below hb, h.brd.then hb, h.nums.below hb, below_then h.bel h.bel.size hb⟩
theorem DeskW.drew (h : DeskW W0 g bw bh A L W) : DeskW W0 g bw bh A L W.drew := h.then (Below.refl _ _).drew
theorem DeskW.alloc (h : DeskW W0 g bw bh A L W) (o : Obj) : DeskW W0 g bw bh A L (W.alloc o) := h.then ((Below.refl _ _).alloc (Nat.le_refl _) o)
theorem DeskW.cells (h : DeskW W0 g bw bh A L W) : W.cell? ⟨g, 0, none⟩ = some (.int .i64 bw) ∧ W.cell? ⟨g, 1, none⟩ = some (.int .i64 bh) := ⟨h.brd.cell 0, h.brd.cell 1⟩
theorem DeskW.num {x : Int} {l : List Int} {ga : Nat} (h : DeskW W0 g bw bh (some ⟨ga, 0, none⟩) (x :: l) W) : W.cell? ⟨ga, 0, none⟩ = some (.int .i64 x) := nth_row h.nums (k := 0) (by simp)
end
theorem list_one (x : Int) : listB [x] 1 = numB x := by
  show (if 0 < 0 then listB [x] 0 ++ ⟨#[44]⟩ else listB [x] 0) ++ numB x = numB x
  rw [if_neg (by decide)]
  exact ByteArray.empty_append
/-- It says a text, and whether there is one. -/
def Says (t : ByteArray) (ok : Bool) (w : World) (e : Ending) (w' : World) : Prop := ∃ t', e = .returned (.tuple #[.string t', .bool ok]) ∧ (ok = true → t' = t) ∧ Below w.heap.size w w'

set_option maxHeartbeats 4000000 in
set_option maxRecDepth 100000 in
theorem tileAnswer_c (g : Nat) (bw bh : Int) (A : Option Addr) (n c : Nat) (w : World) (h : DeskW w g bw bh none [] w) :
    Calls Tryz.prog 58 #[.pointer (some ⟨g, 0, none⟩), .slice A n c] w (Says (numB (coversP bw bh [])) true w) := by
  have HT := hide (fun w5 (h5 : DeskW w g bw bh none [] w5) => implTileCount_c bw bh none 0 [] w5 h5.tab.bits (Row.empty _ _) (by simp))
  have HX := hide (fun (q : Nat) (x : Int) (hx : small18 x) w5 (h5 : DeskW w g bw bh none [] w5) (h6 : Row w5 (some ⟨q, 0, none⟩) (ints [x])) => textOf_c (some ⟨q, 0, none⟩) 1 [x] w5 h6 (by simp) (fun i hi => by
    obtain rfl : i = 0 := by simp at hi; exact hi
    exact hx) h5.tab)
  have HS := hide (small18_of (covers_vals bw bh) (by decide) (by decide))
  have HL := hide (list_one (coversP bw bh []))
  generalize coversP bw bh [] = x at *
  obtain ⟨c0, c1⟩ := h.cells
  have D0 := hide h
  clear h
  go_enter Tryz.func58, Tryz.ntmps58
  go_wp2_with fail
  go_region_held3 (fun w' => w'.cell? ⟨g, 0, none⟩ = some (.int .i64 bw) ∧ w'.cell? ⟨g, 1, none⟩ = some (.int .i64 bh)) (go_keep)
    (first
      | (go_at_call 78; refine (HT.out _ D0.out.drew).mono ?_; rintro e w8 ⟨rfl, b8⟩
         have D8 := hide (D0.out.drew.then b8)
         have D9 := hide (D8.out.alloc (.cells #[.int .i64 x] 3))
         obtain ⟨c80, c81⟩ := D8.out.cells
         obtain ⟨c90, c91⟩ := D9.out.cells
         have R9 := hide (row_new w8 #[.int .i64 x] 3 rfl)
         clear b8)
      | (go_at_call 77; refine (HX.out _ _ HS.out _ D9.out R9.out).mono ?_; rintro e w7 ⟨rfl, b7⟩
         have D7 := hide (D9.out.then b7)
         obtain ⟨c70, c71⟩ := D7.out.cells
         clear b7))
  go_wp2_with fail
  go_ret2
  exact ⟨_, rfl, fun _ => HL.out, D7.out.bel⟩

set_option maxHeartbeats 400000 in
set_option maxRecDepth 100000 in
theorem small_c (bc br : Int) (s : ByteArray) (w : World) : Calls Tryz.prog 89 #[.int .i64 bc, .int .i64 br, .string s] w (Plain (.bool (smallK bc br s.toList).isSome) w) := by
  cases hk : smallK bc br s.toList with
  | none =>
    have H := hide (smallOf_no bc br s w hk)
    clear hk
    go_enter Tryz.func89, Tryz.ntmps89
    go_wp2_with fail
    refine H.out.mono ?_
    rintro e w1 ⟨rfl, b1⟩
    go_wp2_with fail
    go_ret
    exact ⟨rfl, b1⟩
  | some p =>
    obtain ⟨ss, far⟩ := p
    obtain ⟨hS, hkk⟩ := smallK_some hk
    have H := hide (smallOf_yes bc br s w hkk hS)
    clear hk hS hkk
    generalize setsP bc br far ss = L at *
    go_enter Tryz.func89, Tryz.ntmps89
    go_wp2_with fail
    refine H.out.mono ?_
    rintro e w1 ⟨A1, c1, rfl, o1, b1⟩
    go_wp2_with fail
    go_ret
    exact ⟨rfl, b1⟩
theorem king_list : (⟨#[107, 105, 110, 103]⟩ : ByteArray).toList = sKing := by
  rw [Lib.toList_data]
  rfl
theorem king_kind (bw bh : Int) (hB : Brd bw bh) : (smallK bw bh sKing).isSome = decide (bw * bh ≤ 9) := by
  obtain ⟨h1, h2, h3, h4⟩ := hB
  by_cases h9 : bw * bh ≤ 9
  · rw [king_small ⟨h1, h2, h3, h4, h9⟩, decide_eq_true h9]
    rfl
  · unfold smallK
    rw [if_neg (fun h => h9 h.2.2.2.2), decide_eq_false h9]
    rfl
theorem fold_small (bw bh : Int) : (natI (foldV bw bh sKing)).length ≤ 1000 ∧ ∀ i, i < (natI (foldV bw bh sKing)).length → small18 ((natI (foldV bw bh sKing))[i]?.getD 0) :=
  ⟨Nat.le_trans (deskD_s.folds bw bh).1 (by decide), (deskD_s.folds bw bh).2⟩
set_option maxHeartbeats 4000000 in
set_option maxRecDepth 100000 in
theorem foldAnswer_c (g : Nat) (bw bh : Int) (hB : Brd bw bh) (A : Option Addr) (n c : Nat) (w : World) (h : DeskW w g bw bh none [] w) :
    Calls Tryz.prog 62 #[.pointer (some ⟨g, 0, none⟩), .slice A n c] w (Says (listB (natI (foldV bw bh sKing)) (natI (foldV bw bh sKing)).length) (decide (bw * bh ≤ 9)) w) := by
  have HF := hide (fun w5 => show Calls Tryz.prog 88 #[.int .i64 bw, .int .i64 bh, .string ⟨#[107, 105, 110, 103]⟩] w5 (Owns 3 1 (natI (foldV bw bh sKing)).length (ints (natI (foldV bw bh sKing))) w5) by
    have := implFoldOrder_c bw bh ⟨#[107, 105, 110, 103]⟩ w5
    rw [king_list] at this
    rw [natI_len]
    exact this)
  have HV := hide (fun w5 => show Calls Tryz.prog 89 #[.int .i64 bw, .int .i64 bh, .string ⟨#[107, 105, 110, 103]⟩] w5 (Plain (.bool (decide (bw * bh ≤ 9))) w5) by
    have := small_c bw bh ⟨#[107, 105, 110, 103]⟩ w5
    rw [king_list, king_kind bw bh hB] at this
    exact this)
  have HX := hide (fun (A' : Option Addr) (c' : Nat) w5 (h5 : DeskW w g bw bh none [] w5) (h6 : Row w5 A' (ints (natI (foldV bw bh sKing)))) => textOf_c A' c' (natI (foldV bw bh sKing)) w5 h6 (fold_small bw bh).1 (fold_small bw bh).2 h5.tab)
  generalize natI (foldV bw bh sKing) = L at *
  generalize decide (bw * bh ≤ 9) = ok at *
  obtain ⟨c0, c1⟩ := h.cells
  have DN := hide h.drew
  clear h hB
  go_enter Tryz.func62, Tryz.ntmps62
  go_wp2_with fail
  go_region_held3 (fun w' => w'.cell? ⟨g, 0, none⟩ = some (.int .i64 bw) ∧ w'.cell? ⟨g, 1, none⟩ = some (.int .i64 bh)) (go_keep)
    (first
      | (go_at_call 88; refine (HF.out _).mono ?_; rintro e w8 ⟨v8, rfl, o8, b8⟩
         obtain ⟨A8, c8, rfl, _⟩ := own_row o8
         have DN := hide (DN.out.then b8)
         have R8 := hide (own_reads o8)
         obtain ⟨c80, c81⟩ := DN.out.cells
         clear o8 b8)
      | (go_at_call 77; refine (HX.out _ _ _ DN.out R8.out).mono ?_; rintro e w7 ⟨rfl, b7⟩
         have DN := hide (DN.out.then b7)
         obtain ⟨c70, c71⟩ := DN.out.cells
         clear b7)
      | (go_at_call 89; refine (HV.out _).mono ?_; rintro e w9 ⟨rfl, b9⟩
         have DN := hide (DN.out.then b9)
         try (have R8 := hide (R8.out.below b9))
         obtain ⟨c90, c91⟩ := DN.out.cells
         clear b9))
  all_goals (go_wp2_with fail)
  all_goals go_ret2
  all_goals exact ⟨_, rfl, fun _ => rfl, DN.out.bel⟩

theorem ask_reach (bw bh : Int) (k : ByteArray) (x : Int) : reachOfP bw bh k.toList x [] = askCells bw bh k x := by
  unfold reachOfP askCells
  cases hk : kindL k.toList with
  | none =>
    simp only
    split <;> rfl
  | some p =>
    obtain ⟨ss, far⟩ := p
    simp only
    by_cases hq : Brd bw bh ∧ 0 ≤ x ∧ x < bw * bh
    · rw [if_pos hq, if_pos ⟨hq.1, ⟨hq.2.1, hq.2.2⟩, by simp [AscTo]⟩]
    · rw [if_neg hq, if_neg (fun h => hq ⟨h.1, h.2.1.1, h.2.1.2⟩)]
theorem ask_small (bw bh : Int) (k : ByteArray) (x : Int) : (askCells bw bh k x).length ≤ 1000 ∧ ∀ i, i < (askCells bw bh k x).length → small18 ((askCells bw bh k x)[i]?.getD 0) :=
  ⟨Nat.le_trans (deskD_s.cells bw bh k x).1 (by decide), (deskD_s.cells bw bh k x).2⟩
set_option maxHeartbeats 4000000 in
set_option maxRecDepth 100000 in
theorem reachAnswer_c (g ga gk : Nat) (bw bh : Int) (hB : Brd bw bh) (k : ByteArray) (x : Int) (c : Nat) (w : World) (h : DeskW w g bw bh (some ⟨ga, 0, none⟩) [x] w) (hk : w.cell? ⟨gk, 0, none⟩ = some (.string k)) :
    Calls Tryz.prog 91 #[.pointer (some ⟨g, 0, none⟩), .slice (some ⟨ga, 0, none⟩) 1 c, .pointer (some ⟨gk, 0, none⟩)] w (Says (listB (askCells bw bh k x) (askCells bw bh k x).length) (decide (0 ≤ x ∧ x < bw * bh)) w) := by
  have HF := hide (fun w5 => show Calls Tryz.prog 92 #[.int .i64 bw, .int .i64 bh, .string k, .int .i64 x, .slice none 0 0] w5 (Owns 3 1 (askCells bw bh k x).length (ints (askCells bw bh k x)) w5) by
    have := implReachOf_c bw bh x k none 0 [] w5 (Row.empty _ _) (fun ad e => by cases e) (by simp)
    rwa [ask_reach] at this)
  have HV := hide (fun w5 => has_c bw bh x w5 hB.1 hB.2.1 hB.2.2.1 hB.2.2.2)
  have HX := hide (fun (A' : Option Addr) (c' : Nat) w5 (h5 : DeskW w g bw bh (some ⟨ga, 0, none⟩) [x] w5) (h6 : Row w5 A' (ints (askCells bw bh k x))) => textOf_c A' c' (askCells bw bh k x) w5 h6 (ask_small bw bh k x).1 (ask_small bw bh k x).2 h5.tab)
  generalize askCells bw bh k x = L at *
  generalize decide (0 ≤ x ∧ x < bw * bh) = ok at *
  obtain ⟨c0, c1⟩ := h.cells
  have c2 := h.num
  have HK := hide (fun (w' : World) (hb : Below w.heap.size w w') => show w'.cell? ⟨gk, 0, none⟩ = some (.string k) from (hb.cell (cell_lt hk)).trans hk)
  have DN := hide h.drew
  clear h hB
  go_enter Tryz.func91, Tryz.ntmps91
  go_wp2_with fail
  go_region_held3 (fun w' => w'.cell? ⟨g, 0, none⟩ = some (.int .i64 bw) ∧ w'.cell? ⟨g, 1, none⟩ = some (.int .i64 bh) ∧ w'.cell? ⟨ga, 0, none⟩ = some (.int .i64 x) ∧ w'.cell? ⟨gk, 0, none⟩ = some (.string k)) (go_keep)
    (first
      | (go_at_call 92; refine (HF.out _).mono ?_; rintro e w8 ⟨v8, rfl, o8, b8⟩
         obtain ⟨A8, c8, rfl, _⟩ := own_row o8
         have DN := hide (DN.out.then b8)
         have R8 := hide (own_reads o8)
         obtain ⟨c80, c81⟩ := DN.out.cells
         have c82 := DN.out.num
         have c83 := HK.out _ DN.out.bel
         clear o8 b8)
      | (go_at_call 77; refine (HX.out _ _ _ DN.out R8.out).mono ?_; rintro e w7 ⟨rfl, b7⟩
         have DN := hide (DN.out.then b7)
         obtain ⟨c70, c71⟩ := DN.out.cells
         have c72 := DN.out.num
         have c73 := HK.out _ DN.out.bel
         clear b7)
      | (go_at_call 93; refine (HV.out _).mono ?_; rintro e w9 ⟨rfl, b9⟩
         have DN := hide (DN.out.then b9)
         try (have R8 := hide (R8.out.below b9))
         obtain ⟨c90, c91⟩ := DN.out.cells
         have c92 := DN.out.num
         have c93 := HK.out _ DN.out.bel
         clear b9))
  all_goals (go_wp2_with fail)
  all_goals go_ret2
  all_goals exact ⟨_, rfl, fun _ => rfl, DN.out.bel⟩
end Go.Proofs.YtmfdlijkpdgimaaGreatDoor

/-
  The desk of the program: the answers of board, dark and pegs.
-/
namespace Go.Proofs.YtmfdlijkpdgimaaGreatDoor
open Go.RowKit
set_option linter.unusedVariables false

theorem lit_one (bc br x : Int) (q c : Nat) (W : World) (hr : Row W (some ⟨q, 0, none⟩) (ints [x])) :
    Calls Tryz.prog 80 #[.int .i64 bc, .int .i64 br, .slice (some ⟨q, 0, none⟩) 1 c] W fun e w' => ∃ u v : Int, e = .returned (.tuple #[boardV u v, .bool (decide (LitS bc br x))]) ∧ Below W.heap.size W w' := by
  rcases litBoard_c bc br (some ⟨q, 0, none⟩) c [x] W hr (by simp) with ⟨w, h, rfl, rfl, hw, hh, h12, hS, hC⟩ | ⟨hN, hC⟩
  · have hl : LitS (w : Int) (h : Int) x := (inS_lit hw hh h12).2 (hS 0 (by simp))
    rw [decide_eq_true hl]
    exact hC.mono fun e w' ⟨he, hb⟩ => ⟨_, _, he, hb⟩
  · have hl : ¬ LitS bc br x := fun hl => by
      rcases hN with hN | hN
      · exact hN fun i hi => by
          obtain rfl : i = 0 := by simp at hi; exact hi
          exact hl
      · exact hN hl.1
    rw [decide_eq_false hl]
    exact hC.mono fun e w' ⟨he, hb⟩ => ⟨_, _, he, hb⟩

/-- The board's block, changed; the rest of what there was is as it was. -/
def SaysB (t : ByteArray) (ok : Bool) (g : Nat) (a b : Int) (w : World) (e : Ending) (w' : World) : Prop := ∃ t', e = .returned (.tuple #[.string t', .bool ok]) ∧ (ok = true → t' = t) ∧ w.grownBy w' (some g) ∧ Box w' g 40 #[.int .i64 a, .int .i64 b]
theorem Says.toB {t : ByteArray} {ok : Bool} {g : Nat} {a b : Int} {w w' : World} {e : Ending} (h : Says t ok w e w') (hb : Box w g 40 #[.int .i64 a, .int .i64 b]) : SaysB t ok g a b w e w' := by
  obtain ⟨t', h1, h2, h3⟩ := h
  exact ⟨t', h1, h2, gb_below h3 _, hb.then h3⟩
theorem gb_set (w : World) (g i : Nat) (v : Value) : w.grownBy (w.setCell ⟨g, i, none⟩ v) (some g) :=
  ⟨rfl, rfl, rfl, by simp, fun k _ hne => Below.heap_setCell w ⟨g, i, none⟩ v k (fun e => hne (by simp at e; rw [e]))⟩
theorem box_put {w : World} {g : Nat} {t : TypeId} {x y : Value} (h : Box w g t #[x, y]) (u v : Value) :
    Box ((w.setCell ⟨g, 0, none⟩ u).setCell ⟨g, 1, none⟩ v) g t #[u, v] ∧ w.grownBy ((w.setCell ⟨g, 0, none⟩ u).setCell ⟨g, 1, none⟩ v) (some g) :=
  ⟨(h.set 0 u).set 1 v, gb_trans (gb_set w g 0 u) (gb_set _ g 1 v)⟩
set_option maxHeartbeats 4000000 in
set_option maxRecDepth 100000 in
theorem boardAnswer_yes (g ga : Nat) (bw bh a b : Int) (hB : Brd a b) (c : Nat) (w : World) (h : DeskW w g bw bh (some ⟨ga, 0, none⟩) [a, b] w) :
    Calls Tryz.prog 57 #[.pointer (some ⟨g, 0, none⟩), .slice (some ⟨ga, 0, none⟩) 2 c] w (SaysB tDone true g a b w) := by
  have HF := hide (fun w5 => boardOf_yes a b w5 hB.1 hB.2.1 hB.2.2.1 hB.2.2.2)
  have c0 := h.num
  have c1 : w.cell? ⟨ga, 1, none⟩ = some (.int .i64 b) := nth_row h.nums (k := 1) (by simp)
  have x0 := World.new_ne w (⟨ga, 0, none⟩ : Addr) c0
  have x1 := World.new_ne w (⟨ga, 1, none⟩ : Addr) c1
  have HG := hide h
  have gw : w.heap.size ≠ g := Nat.ne_of_gt h.brd.in_
  clear h hB
  go_enter Tryz.func57, Tryz.ntmps57
  go_wp2_with fail
  go_region_held3 (fun w' => w'.cell? ⟨ga, 0, none⟩ = some (.int .i64 a) ∧ w'.cell? ⟨ga, 1, none⟩ = some (.int .i64 b)) (go_keep)
    (first
      | (go_at_call 76; refine (HF.out _).mono ?_; rintro e w8 ⟨rfl, b8⟩
         have HB8 := hide (show Below w.heap.size w w8 from by
           first
             | exact below_then (Below.refl w.heap.size w).drew (Nat.le_refl _) b8
             | exact below_then ((Below.refl w.heap.size w).drew.alloc (Nat.le_refl _) _) (by simp) b8)
         have c80 := (HG.out.then HB8.out).num
         have c81 : w8.cell? ⟨ga, 1, none⟩ = some (.int .i64 b) := nth_row (HG.out.then HB8.out).nums (k := 1) (by simp)
         have x80 := World.new_ne w8 (⟨ga, 0, none⟩ : Addr) c80
         have bx8 := HG.out.brd.then HB8.out
         have d0 : w8.cell? ⟨g, 0, none⟩ = some (.int .i64 bw) := bx8.cell 0
         have d1 : w8.cell? ⟨g, 1, none⟩ = some (.int .i64 bh) := bx8.cell 1
         have f0 := bx8.free 0
         have f1 := bx8.free 1
         have g8 : w8.heap.size ≠ g := Nat.ne_of_gt bx8.in_
         obtain ⟨oc, of⟩ := olds b8
         clear b8))
  · have ba8 := bx8.alloc (.cells #[.int .i64 a, .int .i64 b] 40)
    have da0 : (w8.alloc (.cells #[.int .i64 a, .int .i64 b] 40)).cell? ⟨g, 0, none⟩ = some (.int .i64 bw) := ba8.cell 0
    have da1 : (w8.alloc (.cells #[.int .i64 a, .int .i64 b] 40)).cell? ⟨g, 1, none⟩ = some (.int .i64 bh) := ba8.cell 1
    have fa0 := ba8.free 0
    have fa1 := ba8.free 1
    go_wp2_with fail
    go_ret2
    have HX := HB8.out.alloc HB8.out.size (.cells #[.int .i64 a, .int .i64 b] 40)
    have bX := HG.out.brd.then HX
    exact ⟨_, rfl, fun _ => rfl, gb_trans (gb_below HX _) (box_put bX _ _).2, (box_put bX _ _).1⟩
  · go_wp2_with fail
    go_ret2
    have HX := (HB8.out.setCell (p := ⟨w.heap.size, 0, none⟩) (Nat.le_refl _) (.int .i64 a)).setCell (p := ⟨w.heap.size, 1, none⟩) (Nat.le_refl _) (.int .i64 b)
    have bX := HG.out.brd.then HX
    exact ⟨_, rfl, fun _ => rfl, gb_trans (gb_below HX _) (box_put bX _ _).2, (box_put bX _ _).1⟩
set_option maxHeartbeats 4000000 in
set_option maxRecDepth 100000 in
theorem boardAnswer_no (g ga : Nat) (bw bh a b : Int) (hB : ¬ Brd a b) (c : Nat) (w : World) (h : DeskW w g bw bh (some ⟨ga, 0, none⟩) [a, b] w) :
    Calls Tryz.prog 57 #[.pointer (some ⟨g, 0, none⟩), .slice (some ⟨ga, 0, none⟩) 2 c] w (SaysB tDone false g bw bh w) := by
  have HF := hide (fun w5 => boardOf_no a b w5 hB)
  have c0 := h.num
  have c1 : w.cell? ⟨ga, 1, none⟩ = some (.int .i64 b) := nth_row h.nums (k := 1) (by simp)
  have x0 := World.new_ne w (⟨ga, 0, none⟩ : Addr) c0
  have x1 := World.new_ne w (⟨ga, 1, none⟩ : Addr) c1
  have HG := hide h
  clear h hB
  go_enter Tryz.func57, Tryz.ntmps57
  go_wp2_with fail
  go_region_held3 (fun w' => w'.cell? ⟨ga, 0, none⟩ = some (.int .i64 a) ∧ w'.cell? ⟨ga, 1, none⟩ = some (.int .i64 b)) (go_keep)
    (first
      | (go_at_call 76; refine (HF.out _).mono ?_; rintro e w8 ⟨rfl, b8⟩
         have HB8 := hide (show Below w.heap.size w w8 from by
           first
             | exact below_then (Below.refl w.heap.size w).drew (Nat.le_refl _) b8
             | exact below_then ((Below.refl w.heap.size w).drew.alloc (Nat.le_refl _) _) (by simp) b8)
         have c80 := (HG.out.then HB8.out).num
         have c81 : w8.cell? ⟨ga, 1, none⟩ = some (.int .i64 b) := nth_row (HG.out.then HB8.out).nums (k := 1) (by simp)
         have x80 := World.new_ne w8 (⟨ga, 0, none⟩ : Addr) c80
         obtain ⟨oc, of⟩ := olds b8
         clear b8))
  · go_wp2_with fail
    go_ret2
    have HX := HB8.out.alloc HB8.out.size (.cells #[.int .i64 0, .int .i64 0] 40)
    exact ⟨_, rfl, fun h => (by cases h), gb_below HX _, HG.out.brd.then HX⟩
  · go_wp2_with fail
    go_ret2
    have HX := (HB8.out.setCell (p := ⟨w.heap.size, 0, none⟩) (Nat.le_refl _) (.int .i64 0)).setCell (p := ⟨w.heap.size, 1, none⟩) (Nat.le_refl _) (.int .i64 0)
    exact ⟨_, rfl, fun h => (by cases h), gb_below HX _, HG.out.brd.then HX⟩

set_option maxHeartbeats 8000000 in
set_option maxRecDepth 100000 in
theorem darkAnswer_c (g ga gf : Nat) (bw bh : Int) (x : Int) (c : Nat) (w : World) (h : DeskW w g bw bh (some ⟨ga, 0, none⟩) [x] w) (hk : w.cell? ⟨gf, 0, none⟩ = some (.func (.func 60) #[] #[])) :
    Calls Tryz.prog 79 #[.pointer (some ⟨g, 0, none⟩), .slice (some ⟨ga, 0, none⟩) 1 c, .pointer (some ⟨gf, 0, none⟩)] w (Says (numB (fewVL bw bh x)) (decide (LitS bw bh x)) w) := by
  have HLB := hide (fun (q : Nat) w5 (h5 : Row w5 (some ⟨q, 0, none⟩) (ints [x])) => lit_one bw bh x q 1 w5 h5)
  have HF := hide (fun w5 => implFewestPresses_c bw bh x w5)
  have HX := hide (fun (q : Nat) (y : Int) (hx : small18 y) w5 (h5 : TabZ w5) (h6 : Row w5 (some ⟨q, 0, none⟩) (ints [y])) => textOf_c (some ⟨q, 0, none⟩) 1 [y] w5 h6 (by simp) (fun i hi => by
    obtain rfl : i = 0 := by simp at hi; exact hi
    exact hx) h5)
  have HS := hide (small18_of (darks_vals bw bh x) (by decide) (by decide))
  have HL := hide (list_one (fewVL bw bh x))
  generalize decide (LitS bw bh x) = ok at *
  generalize fewVL bw bh x = y at *
  obtain ⟨c0, c1⟩ := h.cells
  have c2 := h.num
  have HK := hide (fun (w' : World) (hb : Below w.heap.size w w') => show w'.cell? ⟨gf, 0, none⟩ = some (.func (.func 60) #[] #[]) from (hb.cell (cell_lt hk)).trans hk)
  have x0 := World.new_ne w (⟨g, 0, none⟩ : Addr) c0
  have x1 := World.new_ne w (⟨ga, 0, none⟩ : Addr) c2
  have x2 := World.new_ne w (⟨gf, 0, none⟩ : Addr) hk
  have y0 : w.heap.size + 1 ≠ g := by have := cell_lt c0; simp only at this; omega
  have y1 : w.heap.size + 1 ≠ ga := by have := cell_lt c2; simp only at this; omega
  have y2 : w.heap.size + 1 ≠ gf := by have := cell_lt hk; simp only at this; omega
  have HG := hide h
  clear h hk
  go_enter Tryz.func79, Tryz.ntmps79
  go_wp2_with fail
  go_region_held3 (fun w' => w'.cell? ⟨g, 0, none⟩ = some (.int .i64 bw) ∧ w'.cell? ⟨g, 1, none⟩ = some (.int .i64 bh) ∧ w'.cell? ⟨ga, 0, none⟩ = some (.int .i64 x)) (go_keep)
    (first
      | (go_at_call 80
         refine (HLB.out _ _ (by first | exact row_new _ #[.int .i64 x] 3 rfl | exact row_new _ #[.int .i64 x] 3 (by simp) | exact (row_new _ #[.int .i64 x] 3 rfl).alloc _)).mono ?_
         rintro e w8 ⟨p8, r8, rfl, b8⟩
         have HB8 := hide (show Below w.heap.size w w8 from by
           first
             | exact below_then ((Below.refl w.heap.size w).drew.alloc (Nat.le_refl _) _) (by simp) b8
             | exact below_then (((Below.refl w.heap.size w).drew.alloc (Nat.le_refl _) _).alloc (by simp) _) (by simp; omega) b8)
         have D8 := HG.out.then HB8.out
         obtain ⟨c80, c81⟩ := D8.cells
         have c82 := D8.num
         have c83 := HK.out _ HB8.out
         have x80 := World.new_ne w8 (⟨g, 0, none⟩ : Addr) c80
         have x81 := World.new_ne w8 (⟨ga, 0, none⟩ : Addr) c82
         have x82 := World.new_ne w8 (⟨gf, 0, none⟩ : Addr) c83
         clear D8
         obtain ⟨oc, of⟩ := olds b8
         clear b8))
  · go_wp2_with fail
    have HBX := hide (HB8.out.alloc HB8.out.size (.cells #[.int .i64 p8, .int .i64 r8] 40))
    have DX := HG.out.then HBX.out
    obtain ⟨cx0, cx1⟩ := DX.cells
    have cx2 := DX.num
    have cx3 := HK.out _ HBX.out
    clear DX
    go_region_held3 (fun w' => w'.cell? ⟨g, 0, none⟩ = some (.int .i64 bw) ∧ w'.cell? ⟨g, 1, none⟩ = some (.int .i64 bh) ∧ w'.cell? ⟨ga, 0, none⟩ = some (.int .i64 x) ∧ w'.cell? ⟨gf, 0, none⟩ = some (.func (.func 60) #[] #[])) (go_keep)
      (first
        | (go_at_call 60; refine (HF.out _).mono ?_; rintro e w5 ⟨rfl, b5⟩
           have HB5 := hide (below_then HBX.out.drew HBX.out.drew.size b5)
           have D5 := HG.out.then HB5.out
           obtain ⟨c50, c51⟩ := D5.cells
           have c52 := D5.num
           have c53 := HK.out _ HB5.out
           have D6 := hide (D5.alloc (.cells #[.int .i64 y] 3))
           obtain ⟨c60, c61⟩ := D6.out.cells
           have c62 := D6.out.num
           have c63 := HK.out _ D6.out.bel
           have R6 := hide (row_new w5 #[.int .i64 y] 3 rfl)
           clear D5 b5)
        | (go_at_call 77; refine (HX.out _ _ HS.out _ D6.out.tab R6.out).mono ?_; rintro e w7 ⟨rfl, b7⟩
           have D7 := hide (D6.out.then b7)
           obtain ⟨c70, c71⟩ := D7.out.cells
           have c72 := D7.out.num
           have c73 := HK.out _ D7.out.bel
           clear b7))
    go_wp2_with fail
    go_ret2
    exact ⟨_, rfl, fun _ => HL.out, D7.out.bel⟩
  · go_wp2_with fail
    have HBX := hide ((HB8.out.setCell (p := ⟨w.heap.size + 1, 0, none⟩) (Nat.le_succ _) (.int .i64 p8)).setCell (p := ⟨w.heap.size + 1, 1, none⟩) (Nat.le_succ _) (.int .i64 r8))
    have DX := HG.out.then HBX.out
    obtain ⟨cx0, cx1⟩ := DX.cells
    have cx2 := DX.num
    have cx3 := HK.out _ HBX.out
    clear DX
    go_region_held3 (fun w' => w'.cell? ⟨g, 0, none⟩ = some (.int .i64 bw) ∧ w'.cell? ⟨g, 1, none⟩ = some (.int .i64 bh) ∧ w'.cell? ⟨ga, 0, none⟩ = some (.int .i64 x) ∧ w'.cell? ⟨gf, 0, none⟩ = some (.func (.func 60) #[] #[])) (go_keep)
      (first
        | (go_at_call 60; refine (HF.out _).mono ?_; rintro e w5 ⟨rfl, b5⟩
           have HB5 := hide (below_then HBX.out.drew HBX.out.drew.size b5)
           have D5 := HG.out.then HB5.out
           obtain ⟨c50, c51⟩ := D5.cells
           have c52 := D5.num
           have c53 := HK.out _ HB5.out
           have D6 := hide (D5.alloc (.cells #[.int .i64 y] 3))
           obtain ⟨c60, c61⟩ := D6.out.cells
           have c62 := D6.out.num
           have c63 := HK.out _ D6.out.bel
           have R6 := hide (row_new w5 #[.int .i64 y] 3 rfl)
           clear D5 b5)
        | (go_at_call 77; refine (HX.out _ _ HS.out _ D6.out.tab R6.out).mono ?_; rintro e w7 ⟨rfl, b7⟩
           have D7 := hide (D6.out.then b7)
           obtain ⟨c70, c71⟩ := D7.out.cells
           have c72 := D7.out.num
           have c73 := HK.out _ D7.out.bel
           clear b7))
    go_wp2_with fail
    go_ret2
    exact ⟨_, rfl, fun _ => HL.out, D7.out.bel⟩
  · go_wp2_with fail
    have HBX := hide ((HB8.out.setCell (p := ⟨w.heap.size, 0, none⟩) (Nat.le_refl _) (.int .i64 p8)).setCell (p := ⟨w.heap.size, 1, none⟩) (Nat.le_refl _) (.int .i64 r8))
    have DX := HG.out.then HBX.out
    obtain ⟨cx0, cx1⟩ := DX.cells
    have cx2 := DX.num
    have cx3 := HK.out _ HBX.out
    clear DX
    go_region_held3 (fun w' => w'.cell? ⟨g, 0, none⟩ = some (.int .i64 bw) ∧ w'.cell? ⟨g, 1, none⟩ = some (.int .i64 bh) ∧ w'.cell? ⟨ga, 0, none⟩ = some (.int .i64 x) ∧ w'.cell? ⟨gf, 0, none⟩ = some (.func (.func 60) #[] #[])) (go_keep)
      (first
        | (go_at_call 60; refine (HF.out _).mono ?_; rintro e w5 ⟨rfl, b5⟩
           have HB5 := hide (below_then HBX.out.drew HBX.out.drew.size b5)
           have D5 := HG.out.then HB5.out
           obtain ⟨c50, c51⟩ := D5.cells
           have c52 := D5.num
           have c53 := HK.out _ HB5.out
           have D6 := hide (D5.alloc (.cells #[.int .i64 y] 3))
           obtain ⟨c60, c61⟩ := D6.out.cells
           have c62 := D6.out.num
           have c63 := HK.out _ D6.out.bel
           have R6 := hide (row_new w5 #[.int .i64 y] 3 rfl)
           clear D5 b5)
        | (go_at_call 77; refine (HX.out _ _ HS.out _ D6.out.tab R6.out).mono ?_; rintro e w7 ⟨rfl, b7⟩
           have D7 := hide (D6.out.then b7)
           obtain ⟨c70, c71⟩ := D7.out.cells
           have c72 := D7.out.num
           have c73 := HK.out _ D7.out.bel
           clear b7))
    go_wp2_with fail
    go_ret2
    exact ⟨_, rfl, fun _ => HL.out, D7.out.bel⟩

set_option maxHeartbeats 8000000 in
set_option maxRecDepth 100000 in
theorem pegsAnswer_c (g ga gf : Nat) (bw bh : Int) (x : Int) (c : Nat) (w : World) (h : DeskW w g bw bh (some ⟨ga, 0, none⟩) [x] w) (hk : w.cell? ⟨gf, 0, none⟩ = some (.func (.func 61) #[] #[])) :
    Calls Tryz.prog 79 #[.pointer (some ⟨g, 0, none⟩), .slice (some ⟨ga, 0, none⟩) 1 c, .pointer (some ⟨gf, 0, none⟩)] w (Says (numB (fewV bw bh x)) (decide (PegS bw bh x)) w) := by
  rw [show decide (PegS bw bh x) = decide (LitS bw bh x) from rfl]
  have HLB := hide (fun (q : Nat) w5 (h5 : Row w5 (some ⟨q, 0, none⟩) (ints [x])) => lit_one bw bh x q 1 w5 h5)
  have HF := hide (fun w5 => implFewestLeft_c bw bh x w5)
  have HX := hide (fun (q : Nat) (y : Int) (hx : small18 y) w5 (h5 : TabZ w5) (h6 : Row w5 (some ⟨q, 0, none⟩) (ints [y])) => textOf_c (some ⟨q, 0, none⟩) 1 [y] w5 h6 (by simp) (fun i hi => by
    obtain rfl : i = 0 := by simp at hi; exact hi
    exact hx) h5)
  have HS := hide (small18_of (pegs_vals bw bh x) (by decide) (by decide))
  have HL := hide (list_one (fewV bw bh x))
  generalize decide (LitS bw bh x) = ok at *
  generalize fewV bw bh x = y at *
  obtain ⟨c0, c1⟩ := h.cells
  have c2 := h.num
  have HK := hide (fun (w' : World) (hb : Below w.heap.size w w') => show w'.cell? ⟨gf, 0, none⟩ = some (.func (.func 61) #[] #[]) from (hb.cell (cell_lt hk)).trans hk)
  have x0 := World.new_ne w (⟨g, 0, none⟩ : Addr) c0
  have x1 := World.new_ne w (⟨ga, 0, none⟩ : Addr) c2
  have x2 := World.new_ne w (⟨gf, 0, none⟩ : Addr) hk
  have y0 : w.heap.size + 1 ≠ g := by have := cell_lt c0; simp only at this; omega
  have y1 : w.heap.size + 1 ≠ ga := by have := cell_lt c2; simp only at this; omega
  have y2 : w.heap.size + 1 ≠ gf := by have := cell_lt hk; simp only at this; omega
  have HG := hide h
  clear h hk
  go_enter Tryz.func79, Tryz.ntmps79
  go_wp2_with fail
  go_region_held3 (fun w' => w'.cell? ⟨g, 0, none⟩ = some (.int .i64 bw) ∧ w'.cell? ⟨g, 1, none⟩ = some (.int .i64 bh) ∧ w'.cell? ⟨ga, 0, none⟩ = some (.int .i64 x)) (go_keep)
    (first
      | (go_at_call 80
         refine (HLB.out _ _ (by first | exact row_new _ #[.int .i64 x] 3 rfl | exact row_new _ #[.int .i64 x] 3 (by simp) | exact (row_new _ #[.int .i64 x] 3 rfl).alloc _)).mono ?_
         rintro e w8 ⟨p8, r8, rfl, b8⟩
         have HB8 := hide (show Below w.heap.size w w8 from by
           first
             | exact below_then ((Below.refl w.heap.size w).drew.alloc (Nat.le_refl _) _) (by simp) b8
             | exact below_then (((Below.refl w.heap.size w).drew.alloc (Nat.le_refl _) _).alloc (by simp) _) (by simp; omega) b8)
         have D8 := HG.out.then HB8.out
         obtain ⟨c80, c81⟩ := D8.cells
         have c82 := D8.num
         have c83 := HK.out _ HB8.out
         have x80 := World.new_ne w8 (⟨g, 0, none⟩ : Addr) c80
         have x81 := World.new_ne w8 (⟨ga, 0, none⟩ : Addr) c82
         have x82 := World.new_ne w8 (⟨gf, 0, none⟩ : Addr) c83
         clear D8
         obtain ⟨oc, of⟩ := olds b8
         clear b8))
  · go_wp2_with fail
    have HBX := hide (HB8.out.alloc HB8.out.size (.cells #[.int .i64 p8, .int .i64 r8] 40))
    have DX := HG.out.then HBX.out
    obtain ⟨cx0, cx1⟩ := DX.cells
    have cx2 := DX.num
    have cx3 := HK.out _ HBX.out
    clear DX
    go_region_held3 (fun w' => w'.cell? ⟨g, 0, none⟩ = some (.int .i64 bw) ∧ w'.cell? ⟨g, 1, none⟩ = some (.int .i64 bh) ∧ w'.cell? ⟨ga, 0, none⟩ = some (.int .i64 x) ∧ w'.cell? ⟨gf, 0, none⟩ = some (.func (.func 61) #[] #[])) (go_keep)
      (first
        | (go_at_call 61; refine (HF.out _).mono ?_; rintro e w5 ⟨rfl, b5⟩
           have HB5 := hide (below_then HBX.out.drew HBX.out.drew.size b5)
           have D5 := HG.out.then HB5.out
           obtain ⟨c50, c51⟩ := D5.cells
           have c52 := D5.num
           have c53 := HK.out _ HB5.out
           have D6 := hide (D5.alloc (.cells #[.int .i64 y] 3))
           obtain ⟨c60, c61⟩ := D6.out.cells
           have c62 := D6.out.num
           have c63 := HK.out _ D6.out.bel
           have R6 := hide (row_new w5 #[.int .i64 y] 3 rfl)
           clear D5 b5)
        | (go_at_call 77; refine (HX.out _ _ HS.out _ D6.out.tab R6.out).mono ?_; rintro e w7 ⟨rfl, b7⟩
           have D7 := hide (D6.out.then b7)
           obtain ⟨c70, c71⟩ := D7.out.cells
           have c72 := D7.out.num
           have c73 := HK.out _ D7.out.bel
           clear b7))
    go_wp2_with fail
    go_ret2
    exact ⟨_, rfl, fun _ => HL.out, D7.out.bel⟩
  · go_wp2_with fail
    have HBX := hide ((HB8.out.setCell (p := ⟨w.heap.size + 1, 0, none⟩) (Nat.le_succ _) (.int .i64 p8)).setCell (p := ⟨w.heap.size + 1, 1, none⟩) (Nat.le_succ _) (.int .i64 r8))
    have DX := HG.out.then HBX.out
    obtain ⟨cx0, cx1⟩ := DX.cells
    have cx2 := DX.num
    have cx3 := HK.out _ HBX.out
    clear DX
    go_region_held3 (fun w' => w'.cell? ⟨g, 0, none⟩ = some (.int .i64 bw) ∧ w'.cell? ⟨g, 1, none⟩ = some (.int .i64 bh) ∧ w'.cell? ⟨ga, 0, none⟩ = some (.int .i64 x) ∧ w'.cell? ⟨gf, 0, none⟩ = some (.func (.func 61) #[] #[])) (go_keep)
      (first
        | (go_at_call 61; refine (HF.out _).mono ?_; rintro e w5 ⟨rfl, b5⟩
           have HB5 := hide (below_then HBX.out.drew HBX.out.drew.size b5)
           have D5 := HG.out.then HB5.out
           obtain ⟨c50, c51⟩ := D5.cells
           have c52 := D5.num
           have c53 := HK.out _ HB5.out
           have D6 := hide (D5.alloc (.cells #[.int .i64 y] 3))
           obtain ⟨c60, c61⟩ := D6.out.cells
           have c62 := D6.out.num
           have c63 := HK.out _ D6.out.bel
           have R6 := hide (row_new w5 #[.int .i64 y] 3 rfl)
           clear D5 b5)
        | (go_at_call 77; refine (HX.out _ _ HS.out _ D6.out.tab R6.out).mono ?_; rintro e w7 ⟨rfl, b7⟩
           have D7 := hide (D6.out.then b7)
           obtain ⟨c70, c71⟩ := D7.out.cells
           have c72 := D7.out.num
           have c73 := HK.out _ D7.out.bel
           clear b7))
    go_wp2_with fail
    go_ret2
    exact ⟨_, rfl, fun _ => HL.out, D7.out.bel⟩
  · go_wp2_with fail
    have HBX := hide ((HB8.out.setCell (p := ⟨w.heap.size, 0, none⟩) (Nat.le_refl _) (.int .i64 p8)).setCell (p := ⟨w.heap.size, 1, none⟩) (Nat.le_refl _) (.int .i64 r8))
    have DX := HG.out.then HBX.out
    obtain ⟨cx0, cx1⟩ := DX.cells
    have cx2 := DX.num
    have cx3 := HK.out _ HBX.out
    clear DX
    go_region_held3 (fun w' => w'.cell? ⟨g, 0, none⟩ = some (.int .i64 bw) ∧ w'.cell? ⟨g, 1, none⟩ = some (.int .i64 bh) ∧ w'.cell? ⟨ga, 0, none⟩ = some (.int .i64 x) ∧ w'.cell? ⟨gf, 0, none⟩ = some (.func (.func 61) #[] #[])) (go_keep)
      (first
        | (go_at_call 61; refine (HF.out _).mono ?_; rintro e w5 ⟨rfl, b5⟩
           have HB5 := hide (below_then HBX.out.drew HBX.out.drew.size b5)
           have D5 := HG.out.then HB5.out
           obtain ⟨c50, c51⟩ := D5.cells
           have c52 := D5.num
           have c53 := HK.out _ HB5.out
           have D6 := hide (D5.alloc (.cells #[.int .i64 y] 3))
           obtain ⟨c60, c61⟩ := D6.out.cells
           have c62 := D6.out.num
           have c63 := HK.out _ D6.out.bel
           have R6 := hide (row_new w5 #[.int .i64 y] 3 rfl)
           clear D5 b5)
        | (go_at_call 77; refine (HX.out _ _ HS.out _ D6.out.tab R6.out).mono ?_; rintro e w7 ⟨rfl, b7⟩
           have D7 := hide (D6.out.then b7)
           obtain ⟨c70, c71⟩ := D7.out.cells
           have c72 := D7.out.num
           have c73 := HK.out _ D7.out.bel
           clear b7))
    go_wp2_with fail
    go_ret2
    exact ⟨_, rfl, fun _ => HL.out, D7.out.bel⟩
end Go.Proofs.YtmfdlijkpdgimaaGreatDoor
