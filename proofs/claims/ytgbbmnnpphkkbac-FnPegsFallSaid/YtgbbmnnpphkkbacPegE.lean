
/-
  Pegs: the model's comes.
-/
import Derived.Test.YtgbbmnnpphkkbacPegD
namespace Go.Proofs.Ytgbbmnnpphkkbac
open Go.RowKit
set_option linter.unusedVariables false

/-- Which sets are among some. -/
def seenL (P : Nat) (o : List Nat) : List Bool := (List.range P).map fun x => o.contains x
abbrev boolsP (l : List Bool) : List Value := l.map Value.bool
theorem seen_len (P : Nat) (o : List Nat) : (seenL P o).length = P := by simp [seenL]
theorem seen_set {P y : Nat} {o : List Nat} (hy : y < P) : (seenL P o).set y true = seenL P (o ++ [y]) := by
  apply List.ext_getElem
  · simp [seenL]
  · intro i h1 h2
    simp only [seenL, List.length_set, List.length_map, List.length_range] at h1
    rw [List.getElem_set]
    simp only [seenL, List.getElem_map, List.getElem_range]
    by_cases e : y = i
    · subst e; simp
    · rw [if_neg e, Bool.eq_iff_iff]
      simp only [List.contains_iff_mem, List.mem_append, List.mem_singleton]
      exact ⟨.inl, fun h => h.elim id fun h => absurd h.symm e⟩
theorem seen_none (P : Nat) : boolsP (seenL P []) = List.replicate P (.bool false) := by
  apply List.ext_getElem
  · simp [seenL]
  · intro i i1 i2
    simp [seenL]
theorem own_seen {W : World} {base g P : Nat} {o : List Nat} (h : W.ownsRow base 4 1 (.slice (some ⟨g, 0, none⟩) P P) P (boolsP (seenL P o))) {y : Nat} (hy : y < P) :
    W.cell? ⟨g, y, none⟩ = some (.bool (o.contains y)) ∧ W.frozen? ⟨g, y, none⟩ = false ∧ (W.setCell ⟨g, y, none⟩ (.bool true)).ownsRow base 4 1 (.slice (some ⟨g, 0, none⟩) P P) P (boolsP (seenL P (o ++ [y]))) ∧ W.grownBy (W.setCell ⟨g, y, none⟩ (.bool true)) (some g) := by
  have hc := h.cellAt y (by omega)
  obtain ⟨o', gr⟩ := h.stored y (.bool true)
  refine ⟨?_, h.frozenAt y, ?_, gr⟩
  · rw [hc]; simp [seenL, hy]
  · rw [show (boolsP (seenL P o)).set y (.bool true) = boolsP (seenL P (o ++ [y])) by rw [← seen_set hy]; simp [boolsP, List.map_set]] at o'
    exact o'
theorem made_boolsP {w : World} {base : Nat} {v : Value} {n : Nat} {z : Value} (hz : z.cells = #[z]) (h : w.ownsRow base 4 1 v n (madeCells z.cells (n * 1)).toList) : w.ownsRow base 4 1 v n (List.replicate n z) := by
  rwa [hz, Nat.mul_one, toList_madeCells_one] at h
theorem info_ofP {P : Program} {e : TypeId} {z : Value} {size bytes : Nat} (h : (P.info? e).map (fun i => (i.zero, i.size, i.bytes)) = some (some z, size, bytes)) : ∃ i, P.info? e = some i ∧ i.zero = some z ∧ i.size = size ∧ i.bytes = bytes := by
  cases hi : P.info? e with
  | none => simp [hi] at h
  | some i =>
    simp only [hi, Option.map_some, Option.some.injEq, Prod.mk.injEq] at h
    exact ⟨i, rfl, h.1, h.2.1, h.2.2⟩
/-- What the walk wants of the search, at its k-th set. -/
structure AtK (w n s k : Nat) (o : List Nat) (x : Nat) (J : List Jump) : Prop where
  bx : x < 2 ^ n
  at_ : ∀ q, (putsTo x J o q)[k]?.getD 0 = x ∧ k < (putsTo x J o q).length ∧ o.length ≤ (putsTo x J o q).length
  len : ∀ q, q ≤ J.length → (putsTo x J o q).length ≤ 2 ^ n
  jump : ∀ q, q < J.length → JumpIs w n x (J[q]?.getD (0, 0, 0)) ∧ behindP x (J[q]?.getD (0, 0, 0)) < 2 ^ n
  next : bfsL w n s (k + 1) = putsTo x J o J.length
theorem puts_pre (x : Nat) (J : List Jump) (o : List Nat) : ∀ q, ∃ e, putsTo x J o q = o ++ e
  | 0 => ⟨[], by simp [putsTo]⟩
  | q + 1 => by
    obtain ⟨e, h⟩ := puts_pre x J o q
    rw [putsTo, h]
    unfold putN
    split
    · exact ⟨e, rfl⟩
    · exact ⟨e ++ [_], by rw [List.append_assoc]⟩
theorem at_k {w n s k : Nat} (hw : 1 ≤ w) (hs : s < 2 ^ n) (hk : k < (bfsL w n s k).length) : AtK w n s k (bfsL w n s k) ((bfsL w n s k)[k]?.getD 0) (jumpL w n ((bfsL w n s k)[k]?.getD 0)) := by
  have hB := bfs_is hw hs k
  have hx : (bfsL w n s k)[k]? = some ((bfsL w n s k)[k]?.getD 0) := by rw [List.getElem?_eq_getElem hk]; rfl
  have hm := List.mem_of_getElem? hx
  have hnext : bfsL w n s (k + 1) = putsTo ((bfsL w n s k)[k]?.getD 0) (jumpL w n ((bfsL w n s k)[k]?.getD 0)) (bfsL w n s k) (jumpL w n ((bfsL w n s k)[k]?.getD 0)).length := by rw [bfsL, hx]; rfl
  generalize (bfsL w n s k)[k]?.getD 0 = x at *
  generalize bfsL w n s k = o at *
  refine ⟨hB.lt x hm, fun q => ?_, fun q hq => ?_, fun q hq => ?_, hnext⟩
  · obtain ⟨e, he⟩ := puts_pre x (jumpL w n x) o q
    rw [he, List.getElem?_append_left hk, hx, List.length_append]
    exact ⟨rfl, by omega, by omega⟩
  · have h := mid_to hB.mid hw (hB.lt x hm) (hB.come x hm) q hq
    exact nodup_le _ _ h.nodup h.lt
  · rw [List.getElem?_eq_getElem hq]
    have hJ := jump_is hw (List.getElem_mem hq)
    exact ⟨hJ, behind_lt hJ (hB.lt x hm)⟩
theorem put_old {o : List Nat} {y : Nat} (h : o.contains y = true) : putN o y = o := by unfold putN; rw [if_pos h]
theorem put_new {o : List Nat} {y : Nat} (h : o.contains y = false) : putN o y = o ++ [y] := by unfold putN; rw [if_neg (by rw [h]; exact Bool.false_ne_true)]
theorem natI_snoc (o : List Nat) (y : Nat) : ints (natI (o ++ [y])) = ints (natI o) ++ [.int .i64 (y : Int)] := by simp [natI, ints]

set_option maxHeartbeats 8000000 in
set_option maxRecDepth 100000 in
theorem comes_c (w h s : Nat) (W : World) (hw : 1 ≤ w ∧ w ≤ 5) (hh : 1 ≤ h ∧ h ≤ 5) (h12 : w * h ≤ 12) (hs : s < 2 ^ (w * h)) :
    Calls Try.prog 28 #[.int .i64 (w : Int), .int .i64 (h : Int), .int .i64 (s : Int)] W (Owns 3 1 (comeL w (w * h) s).length (ints (natI (comeL w (w * h) s))) W) := by
  have emul : IntKind.i64.wrap ((w : Int) * (h : Int)) = ((w * h : Nat) : Int) := by rw [Int.natCast_mul]; exact IntWalk.i64_in _ (by rw [← Int.natCast_mul]; omega)
  have HPW := hide (fun w6 => specPower12_c (w * h) h12 w6)
  have HJU := hide (fun (x : Nat) (hx : x < 2 ^ (w * h)) w6 => jumps_c w h x w6 hw hh h12 (peg_lt h12 hx))
  have hJl := hide (fun x => jump_len (w := w) (n := w * h) x h12)
  have hp := pow12 h12
  have HAT := hide (fun (k : Nat) (hk : k < (bfsL w (w * h) s k).length) => at_k hw.1 hs hk)
  have HSTOP := hide (fun (k : Nat) (hk : (bfsL w (w * h) s k).length = k) => come_at hw.1 hs hk)
  have HLEN := hide (fun k => bfs_len hw.1 hs k)
  have n12 : w * h ≤ 12 := h12
  generalize w * h = n at *
  have hB0 : Hid (bfsL w n s 0 = [s]) := rfl
  obtain ⟨P, hP⟩ : ∃ P, 2 ^ n = P := ⟨_, rfl⟩
  have HP := hide hP
  rw [hP] at HPW hs hp HLEN
  have HJ2 := hide (fun (x : Nat) (hx : x < P) w6 => HJU.out x (by rw [hP]; exact hx) w6)
  have P1 := hp.1
  have P4 := hp.2
  obtain ⟨i0, hi0, hz0, hz1, hz2⟩ := info_ofP (P := Try.prog) (e := 4) (z := .bool false) (size := 1) (bytes := 1) (by kernel_rfl)
  clear hP hp hw hh h12 HJU
  have s0 : (0 : Int) ≤ (s : Int) := by omega
  have sP : (s : Int) < (P : Int) := by omega
  go_enter Try.func28, Try.ntmps28
  go_wp2_with fail
  refine (HPW.out _).mono ?_
  rintro e w1 ⟨rfl, rfl⟩
  go_wp2_with ((at_make; refine wpList_make_full _ rfl (.tmp 16) (.tmp 16) 64 rfl W.heap.size 4 i0 (.bool false) 1 Try.underlying64 hi0 hz0 hz1 .i64 .i64 P P P rfl rfl rfl rfl (by rw [hz2]; omega) (by simp [maxLen]; omega) (Nat.le_refl _) ?_; intro w4 own4 hg4; have own4 := made_boolsP rfl own4; rw [← seen_none] at own4; obtain ⟨c1, c2, c3, c4⟩ := own_seen own4 (y := s) (by omega); have b4 := (Below.refl W.heap.size W).grown hg4 (Nat.le_refl _) (fun k h => by cases h); have b5 := b4.grown c4 b4.size (fun j e => by injection e with e; omega); have z4 : W.heap.size < w4.heap.size := (own4.lt _ rfl).2; clear hg4 own4))
  have b6 := b5.alloc b5.size (.cells #[.int .i64 (s : Int)] 3)
  have z5 : W.heap.size + 1 ≤ (w4.setCell ⟨W.heap.size, s, none⟩ (.bool true)).heap.size := by have := c4.size; omega
  have oL := World.ownsRow_lit (base := W.heap.size + 1) (e := 3) (size := 1) (w4.setCell ⟨W.heap.size, s, none⟩ (.bool true)) #[.int .i64 (s : Int)] 1 z5 (by simp [maxLen]) rfl
  rw [show (w4.setCell ⟨W.heap.size, s, none⟩ (.bool true)).heap.size = w4.heap.size by simp] at oL
  have c3 := c3.alloc (.cells #[.int .i64 (s : Int)] 3)
  rw [show ([] : List Nat) ++ [s] = bfsL w n s 0 from rfl] at c3
  clear c1 c2 c4 b4 b5
  go_loopw [8, 9] (fun v x wr => ∃ k : Nat, k ≤ (bfsL w n s k).length ∧ x = .int .i64 (k : Int) ∧ wr.ownsRow (W.heap.size + 1) 3 1 v (bfsL w n s k).length (ints (natI (bfsL w n s k))) ∧ wr.ownsRow W.heap.size 4 1 (.slice (some ⟨W.heap.size, 0, none⟩) P P) P (boolsP (seenL P (bfsL w n s k))) ∧ Below W.heap.size W wr) (fun _ x _ => P - (intOf x).toNat)
  case atStart => exact ⟨0, Nat.zero_le _, rfl, oL, c3, b6⟩
  case round =>
    clear oL c3 b6 z5 z4
    obtain ⟨k, hk, rfl, own, sn, hb⟩ := hrel
    obtain ⟨wo, rfl⟩ : ∃ wo : World, wo = wr := ⟨_, rfl⟩
    have hlen := HLEN.out k
    by_cases hlt : k < (bfsL w n s k).length
    · obtain ⟨hx, hat, hlq, hjq, hnx⟩ := HAT.out k hlt
      have hat0 := (hat 0).1
      have HATT := hide hat
      have HLQ := hide hlq
      have HJQ := hide hjq
      have HNX := hide hnx
      have hJl' := hJl.out ((bfsL w n s k)[k]?.getD 0)
      clear hat hlq hjq hnx
      obtain ⟨A, c, rfl, _, _, rv, fv⟩ := own_row own
      obtain ⟨ad, rfl, hck⟩ := rv.int (k := k) (by rw [natI_len]; exact hlt)
      rw [natI_at] at hck
      obtain ⟨x, hxe⟩ : ∃ x, (bfsL w n s k)[k]?.getD 0 = x := ⟨_, rfl⟩
      rw [hxe] at hck hx HATT HLQ HJQ HNX hJl'
      have hJx := hide (HJ2.out x (by rw [← HP.out]; exact hx) wo)
      clear HAT HSTOP
      generalize bfsL w n s k = o at *
      generalize jumpL w n x = J at *
      have hx4 : x < 4096 := by rw [HP.out] at hx; omega
      clear hxe hat0 hx rv fv HLEN
      have k0 : (0 : Int) ≤ (k : Int) := by omega
      have k1 : (k : Int) < (o.length : Int) := by omega
      go_wp2_with fail
      refine hJx.out.mono ?_
      rintro e w2 ⟨v2, vs2, rfl, own2, rd2, b2⟩
      have hl2 : vs2.length = J.length := by have := rd2.1; rwa [jumpI_len] at this
      rw [hl2] at own2
      obtain ⟨A2, c2, rfl, _, _, rv2, fv2⟩ := own_row own2
      have hown := own_below own b2
      have hsn := own_below sn b2
      have hbw := below_then hb hb.size b2
      have HOFF := hide (fun (g : Nat) (hg : g < wo.heap.size ∨ w2.heap.size ≤ g) => show Off g vs2 from hg.elim (fun h => rd2.off_low h) fun h => rd2.off_new (fun y hy => by rw [jumpI_row _ y hy]; omega) h)
      have HF2 := hide (fun (g : Nat) (hg : g < wo.heap.size ∨ w2.heap.size ≤ g) (ad : Addr) (e : A2 = some ad) => show some g ≠ some ad.block by
        obtain ⟨g', rfl, h1, h2, _⟩ := fv2 ad e
        intro e'
        injection e' with e'
        simp only at e'
        omega)
      have hbk : Hid (∀ g, (Value.slice (some ad) o.length c).ownBlock = some g → g < wo.heap.size ∨ w2.heap.size ≤ g) := fun g e => .inl (own.lt g e).2
      have gW : Hid (W.heap.size < wo.heap.size) := hide (sn.lt _ rfl).2
      have z2 := b2.size
      clear own sn hb b2 fv2 hck hJx own2
      have HR2 := hide (And.intro rv2 rd2)
      clear rv2 rd2
      go_wp2_with fail
      go_loopw [8, 11] (fun v y wr => ∃ q : Nat, q ≤ J.length ∧ y = .int .i64 (q : Int) ∧ wr.ownsRow (W.heap.size + 1) 3 1 v (putsTo x J o q).length (ints (natI (putsTo x J o q))) ∧ wr.ownsRow W.heap.size 4 1 (.slice (some ⟨W.heap.size, 0, none⟩) P P) P (boolsP (seenL P (putsTo x J o q))) ∧ Below W.heap.size W wr ∧
          Hid (Row wr A2 vs2 ∧ Reads wr wo.heap.size vs2 (jumpI J)) ∧ Hid (∀ g, v.ownBlock = some g → g < wo.heap.size ∨ w2.heap.size ≤ g) ∧ w2.heap.size ≤ wr.heap.size) (fun _ y _ => J.length - (intOf y).toNat)
      case atStart => exact ⟨0, Nat.zero_le _, rfl, hown, hsn, hbw, HR2, hbk, Nat.le_refl _⟩
      case round =>
        clear hown hsn hbw HR2 hbk
        obtain ⟨q, hq, rfl, own, sn, hb, hrr, hbk, zr⟩ := hrel
        obtain ⟨wi, rfl⟩ : ∃ wi : World, wi = wr := ⟨_, rfl⟩
        by_cases hql : q < J.length
        · obtain ⟨t1, t2, t3⟩ := HATT.out q
          have t4 := HLQ.out q hq
          rw [HP.out] at t4
          obtain ⟨j1, j2⟩ := HJQ.out q hql
          rw [HP.out] at j2
          obtain ⟨A, c', rfl, _, _, rv, fv⟩ := own_row own
          obtain ⟨ad', rfl, hck⟩ := rv.int (k := k) (by rw [natI_len]; exact t2)
          rw [natI_at, t1] at hck
          obtain ⟨rv2, rd2⟩ := hrr.out
          obtain ⟨Aq, cq, eq, rq, _, _⟩ := rd2.at_ (i := q) (by rw [jumpI_len]; exact hql)
          rw [jumpI_at _ hql] at eq rq
          obtain ⟨ad2, rfl, hc2⟩ := rv2.at_ (k := q) (by rw [hl2]; exact hql)
          rw [eq, show (rowJ (J[q]?.getD (0, 0, 0))).length = 3 from rfl] at hc2
          have HBH := hide (fun (m : Nat) => behind_c w n x (J[q]?.getD (0, 0, 0)) j1 n12 hx4 Aq cq (wi.drewN m) (rq.drewN m))
          have HPT := hide (show putsTo x J o (q + 1) = putN (putsTo x J o q) (behindP x (J[q]?.getD (0, 0, 0))) from rfl)
          obtain ⟨y, hy⟩ : ∃ y, behindP x (J[q]?.getD (0, 0, 0)) = y := ⟨_, rfl⟩
          rw [hy] at HBH HPT j2
          obtain ⟨d1, d2, d3, d4⟩ := own_seen sn (y := y) j2
          have q0 : (0 : Int) ≤ (q : Int) := by omega
          have q1 : (q : Int) < (J.length : Int) := by omega
          have y0 : (0 : Int) ≤ (y : Int) := by omega
          have y1 : (y : Int) < (P : Int) := by omega
          have k2 : (k : Int) < ((putsTo x J o q).length : Int) := by omega
          clear t1 j1 eq rq hy rv rv2 rd2
          have HQ := hide hql
          have HPL := hide (show (putsTo x J o q).length ≤ 4096 by omega)
          clear hlt
          generalize putsTo x J o q = o' at *
          cases hcon : o'.contains y with
          | true =>
            have HO := hide (HPT.out.trans (put_old hcon))
            rw [hcon] at d1
            clear hcon d2 d3 d4 HPT
            go_wp2_with fail
            go_quiet ((go_at_call 46; exact Calls.quiet_of (HBH.out _)))
            go_wp2_with fail
            exact ⟨⟨q + 1, HQ.out, by go_num, by rw [HO.out]; exact own, by rw [HO.out]; exact sn, below_drewN hb _, hrr, hbk, zr⟩, by simp [intOf]; omega⟩
          | false =>
            have HO := hide (HPT.out.trans (put_new hcon))
            clear HPT
            go_wp2_with fail
            go_quiet ((go_at_call 46; exact Calls.quiet_of (HBH.out _)))
            have sn' : (wi.drewN nq).ownsRow W.heap.size 4 1 (.slice (some ⟨W.heap.size, 0, none⟩) P P) P (boolsP (seenL P o')) := sn
            have own' : (wi.drewN nq).ownsRow (W.heap.size + 1) 3 1 (.slice (some ad') o'.length c') o'.length (ints (natI o')) := own
            have hb' := below_drewN hb nq
            have hrr' : Hid (Row (wi.drewN nq) (some ad2) vs2 ∧ Reads (wi.drewN nq) wo.heap.size vs2 (jumpI J)) := hrr
            have zr' : w2.heap.size ≤ (wi.drewN nq).heap.size := zr
            clear own sn hb hrr zr d1 d2 d3 d4 HBH hck hc2
            generalize wi.drewN nq = wq at *
            obtain ⟨d1, d2, d3, d4⟩ := own_seen sn' (y := y) j2
            rw [hcon] at d1
            have zW : W.heap.size < wq.heap.size := by have := gW.out; omega
            have own2 := own'.kept d4 (.inr (fun e => by have := (own'.lt _ e).1; omega))
            have hb2 := hb'.grown d4 hb'.size (fun j e => by injection e with e; omega)
            have hrr2 := hide (And.intro (hrr'.out.1.grown d4 (HF2.out _ (.inl gW.out))) (hrr'.out.2.grown d4 (fun g e => by injection e with e; subst e; exact HOFF.out _ (.inl gW.out))))
            have hrr3 := hide (And.intro (hrr2.out.1.alloc (.cells #[.int .i64 (y : Int)] 3)) (hrr2.out.2.below ((Below.refl _ _).alloc (Nat.le_refl _) (.cells #[.int .i64 (y : Int)] 3))))
            have own3 := own2.alloc (.cells #[.int .i64 (y : Int)] 3)
            have sn3 := d3.alloc (.cells #[.int .i64 (y : Int)] 3)
            have hb3 := hb2.alloc hb2.size (.cells #[.int .i64 (y : Int)] 3)
            have o4 := HPL.out
            have hz3 := hide (show W.heap.size + 1 ≤ ((wq.setCell ⟨W.heap.size, y, none⟩ (.bool true)).alloc (.cells #[.int .i64 (y : Int)] 3)).heap.size by simp; omega)
            clear own' sn' hb' hrr' own2 hb2 hrr2 d3 d4
            have SN3 := hide sn3
            clear sn3
            go_wp2_with ((at_builtin; refine put_own rfl (.tmp 59) (.tmp 61) rfl Try.underlying26 elem_int' rfl own3 rfl (m := 1) (news := [.int .i64 (y : Int)]) rfl (row_new _ _ _ (by first | rfl | simp)) (by simp [Value.oneCell']) (by omega) (by omega) hz3.out ?_; intro v5 w5 own5 hg5 ho5))
            have hg5 : World.grownBy _ w5 (Value.slice (some ad') o'.length c').ownBlock := hg5
            have ho5 : v5.ownBlock = (Value.slice (some ad') o'.length c').ownBlock ∨ v5.ownBlock = _ := ho5
            have hout : ∀ g, (Value.slice (some ad') o'.length c').ownBlock = some g → g < wo.heap.size ∨ w2.heap.size ≤ g := hbk.out
            have sn5 := SN3.out.kept hg5 (.inr (fun e => by have := (own3.lt W.heap.size e.symm).1; omega))
            have hrr5 : Hid (Row w5 (some ad2) vs2 ∧ Reads w5 wo.heap.size vs2 (jumpI J)) := hide ⟨hrr3.out.1.grown hg5 (fun ad e => by
                cases hv : (Value.slice (some ad') o'.length c').ownBlock with
                | none => intro h; cases h
                | some g => exact HF2.out g (hout g hv) ad e), hrr3.out.2.grown hg5 (fun g e => HOFF.out g (hout g e))⟩
            have hbk5 : Hid (∀ g, v5.ownBlock = some g → g < wo.heap.size ∨ w2.heap.size ≤ g) := hide fun g e => by
              rcases ho5 with h | h
              · rw [h] at e; exact hout g e
              · rw [h] at e
                injection e with e
                simp at e
                omega
            have hb5 := below_grown hb3 hb3.size own3 (by omega) hg5
            have z5 : w2.heap.size ≤ w5.heap.size := by have := hg5.size; simp at this; omega
            refine ⟨⟨q + 1, HQ.out, by go_num, ?_, by rw [HO.out]; exact sn5, hb5, hrr5, hbk5, z5⟩, by simp [intOf]; omega⟩
            rw [HO.out, List.length_append, natI_snoc]
            exact own5
        · obtain rfl : q = J.length := by omega
          rw [← HNX.out] at own sn
          obtain ⟨A, c', rfl, _⟩ := own_row own
          have hk' : Hid (k + 1 ≤ (bfsL w n s (k + 1)).length) := hide (by rw [HNX.out]; exact (HATT.out J.length).2.1)
          go_wp2_with fail
          exact ⟨⟨k + 1, hk'.out, by go_num, own, sn, hb⟩, by simp [intOf]; omega⟩
    · have hkl : (bfsL w n s k).length = k := by omega
      have HE := hide (HSTOP.out k hkl)
      have KL : ¬ ((k : Int) < ((bfsL w n s k).length : Int)) := by omega
      obtain ⟨A, c, rfl, _⟩ := own_row own
      clear hkl hlen hk hlt
      go_wp2_with fail
      go_ret
      rw [HE.out]
      exact ⟨_, rfl, own_mono own (by omega), hb⟩
end Go.Proofs.Ytgbbmnnpphkkbac
