
/-
  The program's pegs: comesFrom.
-/
import Derived.Test.YtgbbmnnpphkkbacPPegD
namespace Go.Proofs.Ytgbbmnnpphkkbac
open Go.RowKit Go.Maps
set_option linter.unusedVariables false

def lenV : Value → Nat
  | .slice _ n _ => n
  | _ => 0
theorem natI_take (o : List Nat) {k : Nat} (hk : k < o.length) : natI (o.take (k + 1)) = natI (o.take k) ++ [((o[k]?.getD 0 : Nat) : Int)] := by
  unfold natI
  rw [List.take_succ_eq_append_getElem hk, List.map_append, List.getElem?_eq_getElem hk]
  rfl
theorem drop_next (o : List Nat) (hn : o.Nodup) {k : Nat} (hk : k < o.length) (t : Nat) : (!(t == o[k]?.getD 0) && (o.drop k).contains t) = (o.drop (k + 1)).contains t := by
  have e : o.drop k = o[k] :: o.drop (k + 1) := List.drop_eq_getElem_cons hk
  have hno : o[k] ∉ o.drop (k + 1) := fun h => by
    have := List.Pairwise.sublist (List.drop_sublist k o) hn
    rw [e, List.pairwise_cons] at this
    exact this.1 _ h rfl
  rw [List.getElem?_eq_getElem hk, Option.getD_some, e, List.contains_cons]
  by_cases h : t = o[k]
  · subst h
    simp [hno]
  · have h' : (t == o[k]) = false := by simpa using h
    rw [h']
    simp
theorem drop_push (o : List Nat) {k : Nat} (hk : k ≤ o.length) (y t : Nat) : (t == y || (o.drop k).contains t) = ((o ++ [y]).drop k).contains t := by
  rw [List.drop_append_of_le_length hk, Bool.eq_iff_iff]
  simp only [Bool.or_eq_true, beq_iff_eq, List.contains_iff_mem, List.mem_append, List.mem_singleton]
  exact Or.comm
theorem has_drop {w n s k q : Nat} (hw : 1 ≤ w) (hs : s < 2 ^ n) (hk : k < (bfsL w n s k).length) (hq : q < (jumpL w n ((bfsL w n s k)[k]?.getD 0)).length) :
    (putsTo ((bfsL w n s k)[k]?.getD 0) (jumpL w n ((bfsL w n s k)[k]?.getD 0)) (bfsL w n s k) q).contains (behindP ((bfsL w n s k)[k]?.getD 0) ((jumpL w n ((bfsL w n s k)[k]?.getD 0))[q]?.getD (0, 0, 0))) =
    ((putsTo ((bfsL w n s k)[k]?.getD 0) (jumpL w n ((bfsL w n s k)[k]?.getD 0)) (bfsL w n s k) q).drop (k + 1)).contains (behindP ((bfsL w n s k)[k]?.getD 0) ((jumpL w n ((bfsL w n s k)[k]?.getD 0))[q]?.getD (0, 0, 0))) := by
  have hB := bfs_is hw hs k
  have hx : (bfsL w n s k)[k]? = some ((bfsL w n s k)[k]?.getD 0) := by rw [List.getElem?_eq_getElem hk]; rfl
  have hm := List.mem_of_getElem? hx
  generalize (bfsL w n s k)[k]?.getD 0 = x at *
  have hmid := mid_to hB.mid hw (hB.lt x hm) (hB.come x hm) q (by omega)
  rw [Bool.eq_iff_iff, List.contains_iff_mem, List.contains_iff_mem]
  refine left_mem hB hx hmid hw ?_
  rw [List.getElem?_eq_getElem hq]
  exact List.getElem_mem _

set_option maxHeartbeats 8000000 in
set_option maxRecDepth 100000 in
theorem comesFrom_c (w h s : Nat) (W : World) (hw : 1 ≤ w ∧ w ≤ 5) (hh : 1 ≤ h ∧ h ≤ 5) (h12 : w * h ≤ 12) (hs : s < 2 ^ (w * h)) :
    Calls Try.prog 26 #[boardV (w : Int) (h : Int), .int .i64 (s : Int)] W (Owns 3 1 (comeL w (w * h) s).length (ints (ascP (natI (comeL w (w * h) s)))) W) := by
  have HJO := hide (fun (x : Nat) (hx : x < 2 ^ (w * h)) w6 => jumpsOf_c w h x w6 hw hh h12 (peg_lt h12 hx))
  have hJl := hide (fun x => jump_len (w := w) (n := w * h) x h12)
  have HAT := hide (fun (k : Nat) (hk : k < (bfsL w (w * h) s k).length) => at_k hw.1 hs hk)
  have HHD := hide (fun (k : Nat) (hk : k < (bfsL w (w * h) s k).length) q hq => has_drop (q := q) hw.1 hs hk hq)
  have HND := hide (fun k => (bfs_is hw.1 hs k).nodup)
  have HSTOP := hide (fun (k : Nat) (hk : (bfsL w (w * h) s k).length = k) => come_at hw.1 hs hk)
  have HLEN := hide (fun k => bfs_len hw.1 hs k)
  have hp := pow12 h12
  have HAS := hide (fun (x : Nat) (j : Jump) (hx : x < 4096) (hJ : JumpIs w (w * h) x j) w6 => show Calls Try.prog 42 #[jumpA (j.1 : Int) (j.2.1 : Int) (j.2.2 : Int), .int .i64 (x : Int)] w6 (Plain (.int .i64 ((behindP x j : Nat) : Int)) w6) by
    have := jbehind_c j.1 j.2.1 j.2.2 x (by have := hJ.i; omega) (by have := hJ.m; omega) (by have := hJ.k; omega) hx w6
    rwa [behind_sets hJ] at this)
  have hs4 := peg_lt h12 hs
  generalize w * h = n at *
  obtain ⟨P, hP⟩ : ∃ P, 2 ^ n = P := ⟨_, rfl⟩
  have HP := hide hP
  rw [hP] at hs hp HLEN
  have P4 := hp.2
  have hmm := @run_makeMap Try.prog
  have bx0 := Box.new W 43 #[.int .i64 (w : Int), .int .i64 (h : Int)]
  clear hP hp hw hh h12
  have hwf := key_wf (y := s) (by omega)
  have bxp := Box.new (W.alloc (.cells #[.int .i64 (w : Int), .int .i64 (h : Int)] 43)) 60 #[.int .i64 (s : Int), .pointer none]
  have hmade := hide (World.ownsMap_made ((W.alloc (.cells #[.int .i64 (w : Int), .int .i64 (h : Int)] 43)).alloc (.cells #[.int .i64 (s : Int), .pointer none] 60)) Try.prog 3 (plainElem (H := Unit) Try.prog 4))
  have st0 : StP W (((W.alloc (.cells #[.int .i64 (w : Int), .int .i64 (h : Int)] 43)).alloc (.cells #[.int .i64 (s : Int), .pointer none] 60)).alloc (.map #[] 0)) (w : Int) (h : Int) [W.heap.size + 1] [s] 0 (.map []) (.slice none 0 0) [] :=
    ⟨World.ownsRow_nil _ _ _ _, ⟨rfl, fun j g y h1 h2 => by
        have hj : j = 0 := by have := (List.getElem?_eq_some_iff.1 h1).1; simpa using this
        subst hj
        simp at h1 h2
        subst h1 h2
        have := bxp.alloc (.map #[] 0)
        simpa [nextV] using this, by simp, fun g hg => by rw [List.mem_singleton.1 hg]; omega⟩,
      by simpa using hmade.out, (bx0.alloc _).alloc _, (((Below.refl _ _).alloc (Nat.le_refl _) _).alloc (by simp) _).alloc (by simp; omega) _⟩
  have hmap0 : OwnsB _ (W.heap.size + 1 + 1) 0 (.map []) := st0.map
  have Hst0 := hide st0
  clear st0 bxp bx0 hmade
  go_enter Try.func26, Try.ntmps26
  go_wp2_with (first
    | (refine insert_ownP _ rfl _ _ _ 61 rfl 3 4 mlawP Try.underlying61 (plainElem Try.prog 4) (W.heap.size + 1 + 1) 0 _ rfl hmap0 (by unfold maxLen; omega) _ _ _ rfl rfl (keyOf_int_mk Try.underlying3 hwf) _ [] (plainElem_bool Try.underlying4 true) ?_; intro w1 own1 hg1)
    | go_in)
  have st1 := Hst0.out.mapped hg1 own1
  have hv1 : Hid (SetV (DataW.put (.map []) (.int .i64 (s : Int)) (.lit (.bool true))) (fun t => ((bfsL w n s 0).drop 0).contains t)) := hide ((SetV.empty.put s).congr fun t => by
    show (t == s || false) = [s].contains t
    rw [Bool.eq_iff_iff]; simp)
  clear hmap0 own1 hg1 Hst0 hwf
  go_loopw [5, 6, 8] (fun v l a wr => ∃ (k : Nat) (gs : List Nat) (nm : Nat) (D : DataW Unit), k ≤ (bfsL w n s k).length ∧ (∃ A c, v = .slice A k c) ∧ (∃ gl, gs[(bfsL w n s k).length - 1]? = some gl ∧ l = .pointer (some ⟨gl, 0, none⟩)) ∧ Hid (a = nextV gs k) ∧
      StP W wr (w : Int) (h : Int) gs (bfsL w n s k) nm D v (natI ((bfsL w n s k).take k)) ∧ Hid (SetV D (fun t => ((bfsL w n s k).drop k).contains t)) ∧ nm ≤ (bfsL w n s k).length) (fun v _ _ _ => P - lenV v)
  case atStart => exact ⟨0, [W.heap.size + 1], 1, _, Nat.zero_le _, ⟨_, _, rfl⟩, ⟨_, rfl, rfl⟩, rfl, st1, hv1, Nat.le_refl _⟩
  case round =>
    clear st1 hv1
    obtain ⟨k, gs, nm, D, hk, ⟨A, c, rfl⟩, ⟨gl, hgl, rfl⟩, ha, st, hv, hnm⟩ := hrel
    obtain ⟨wo, rfl⟩ : ∃ wo : World, wo = wr := ⟨_, rfl⟩
    have hlen := HLEN.out k
    by_cases hlt : k < (bfsL w n s k).length
    · obtain ⟨hx, hat, hlq, hjq, hnx⟩ := HAT.out k hlt
      have hhd := hide (HHD.out k hlt)
      have hnd := hide (HND.out k)
      have HATT := hide hat
      have HLQ := hide hlq
      have HJQ := hide hjq
      have HNX := hide hnx
      have hJl' := hJl.out ((bfsL w n s k)[k]?.getD 0)
      have htk := hide (natI_take (bfsL w n s k) hlt)
      have hdn := hide (drop_next (bfsL w n s k) hnd.out hlt)
      obtain ⟨g, hg, hgB, hgs, bxg⟩ := st.chain.at_ hlt
      have HG := hide hg
      have hnv : nextV gs k = .pointer (some ⟨g, 0, none⟩) := by unfold nextV; rw [hg]; rfl
      have ha' := ha.out
      rw [hnv] at ha'
      subst ha'
      clear HAT HHD HSTOP hat hlq hjq hnx hnv ha hg
      generalize hxo : (bfsL w n s k)[k]?.getD 0 = x at *
      generalize bfsL w n s k = o at *
      have HXO := hide hxo
      clear hxo
      have HJx := hide (HJO.out x hx)
      generalize jumpL w n x = J at *
      have hx4 : x < 4096 := by rw [HP.out] at hx; omega
      have hxw := key_wf (y := x) (by omega)
      have ST := hide st
      have hdone : (natI (o.take k)).length = k := by rw [natI_len, List.length_take]; omega
      have own1 := (st.own).alloc (.cells #[.int .i64 (x : Int)] 3)
      rw [hdone] at own1
      have hz1 := hide (st.alloc (.cells #[.int .i64 (x : Int)] 3)).below.size
      have kg := bxg.cell 0
      have GG := hide (And.intro hgB hgs)
      have HDN := hide hdone
      clear hx hdone st bxg hgB hgs
      go_wp2_with (first
        | (at_delete; refine wpList_delete_own _ rfl _ _ 61 3 rfl 4 mlawP Try.underlying61 _ (W.heap.size + 1 + 1) nm D rfl st5.map _ _ rfl (keyOf_int_mk Try.underlying3 hxw) ?_
           intro w6 own6 ht6
           have st6 := st5.mapped ht6.grown own6)
        | (at_builtin; refine put_own rfl (.tmp 25) (.tmp 30) rfl Try.underlying26 elem_int' rfl own1 rfl (m := 1) (news := [.int .i64 (x : Int)]) rfl (row_new _ _ _ (by first | rfl | simp)) (by simp [Value.oneCell']) (by omega) (by omega) hz1.out ?_
           intro v5 w5 own5 hg5 ho5
           have own5' : w5.ownsRow W.heap.size 3 1 v5 (natI (o.take (k + 1))).length (ints (natI (o.take (k + 1)))) := by
             rw [htk.out, List.length_append, HDN.out]
             simpa [ints] using own5
           have st5 := (ST.out.alloc (.cells #[.int .i64 (x : Int)] 3)).row hg5 own5'
           obtain ⟨g', hg', _, _, bx5⟩ := st5.chain.at_ hlt
           have hg' : g = g' := by have h1 := HG.out; rw [hg'] at h1; injection h1 with h1; exact h1.symm
           subst hg'
           have k5 := bx5.cell 0
           rw [HXO.out] at k5
           clear own5 hg5 ho5 own5' bx5 kg own1)
        | go_in)
      have hv6 : Hid (SetV (D.del (.int .i64 (x : Int))) (fun t => (o.drop (k + 1)).contains t)) := hide ((hv.out.del x).congr fun t => hdn.out t)
      have hl5 : (natI (o.take (k + 1))).length = k + 1 := by rw [natI_len, List.length_take]; omega
      obtain ⟨A5, c5, rfl, _⟩ := own_row st6.own
      rw [hl5]
      have HL5 := hide hl5
      obtain ⟨g', hg', _, _, bx6⟩ := st6.chain.at_ hlt
      have hgg : g = g' := by have h1 := HG.out; rw [hg'] at h1; injection h1 with h1; exact h1.symm
      subst hgg
      have k6 : w6.drew.cell? ⟨g, 0, none⟩ = some (.int .i64 (x : Int)) := by have := bx6.cell 0; rw [HXO.out] at this; exact this
      have k7 : w6.drew.cell? ⟨W.heap.size, 0, none⟩ = some (.int .i64 (w : Int)) := st6.board.cell 0
      have k8 : w6.drew.cell? ⟨W.heap.size, 1, none⟩ = some (.int .i64 (h : Int)) := st6.board.cell 1
      have ST6 := hide st6.drew
      clear st5 st6 own6 ht6 hv hdn hl5 hg' bx6 k5 ST hz1 hxw HDN htk
      go_region_held3 (fun w' => w'.cell? ⟨g, 0, none⟩ = some (.int .i64 (x : Int)) ∧ w'.cell? ⟨W.heap.size, 0, none⟩ = some (.int .i64 (w : Int)) ∧ w'.cell? ⟨W.heap.size, 1, none⟩ = some (.int .i64 (h : Int))) (go_keep)
        (first
          | (go_at_call 30; refine (HJx.out _).mono ?_
             rintro e w7 ⟨vj, rfl, oj, bj⟩
             have st7 := ST6.out.then bj
             have oj := own_mono oj ST6.out.below.size
             obtain ⟨g7, hg7, _, _, bx7⟩ := st7.chain.at_ hlt
             have hgg7 : g = g7 := by have h1 := HG.out; rw [hg7] at h1; injection h1 with h1; exact h1.symm
             have k17 := bx7.cell 0
             rw [HXO.out, ← hgg7] at k17
             have k18 := st7.board.cell 0
             have k19 := st7.board.cell 1
             have hvj : ∃ A c, vj = .slice A J.length c := by obtain ⟨A, c, e, _⟩ := own_row oj; exact ⟨A, c, e⟩
             obtain ⟨Aj, cj, rfl⟩ := hvj
             clear bj hg7 bx7 hgg7)
          | fail)
      clear k6 k7 k8 k17 k18 k19 ST6
      go_wp2_with fail
      go_loopw [6, 44] (fun l i wr => ∃ (q : Nat) (gs' : List Nat) (nm' : Nat) (D' : DataW Unit), q ≤ J.length ∧ i = .int .i64 (q : Int) ∧ (∃ gl', gs'[(putsTo x J o q).length - 1]? = some gl' ∧ l = .pointer (some ⟨gl', 0, none⟩)) ∧ Hid (gs'[k]? = some g) ∧
          StP W wr (w : Int) (h : Int) gs' (putsTo x J o q) nm' D' (.slice A5 (k + 1) c5) (natI (o.take (k + 1))) ∧ Hid (SetV D' (fun t => ((putsTo x J o q).drop (k + 1)).contains t)) ∧ nm' ≤ (putsTo x J o q).length ∧ wr.ownsRow W.heap.size 52 3 (.slice Aj J.length cj) J.length (cells3 J)) (fun _ i _ => J.length - (intOf i).toNat)
      case atStart => exact ⟨0, gs, nm, _, Nat.zero_le _, rfl, ⟨gl, hgl, rfl⟩, HG, by have := st7; rw [HL5.out] at this; exact this, hv6, hnm, oj⟩
      case round =>
        clear st7 oj hgl hv6 hnm
        obtain ⟨q, gs', nm', D', hq, rfl, ⟨gl', hgl', rfl⟩, hgk, st, hv, hnm', oj⟩ := hrel
        obtain ⟨wi, rfl⟩ : ∃ wi : World, wi = wr := ⟨_, rfl⟩
        have zi := st.below.size
        by_cases hql : q < J.length
        · obtain ⟨t1, t2, t3⟩ := HATT.out q
          have t4 := HLQ.out q hq
          rw [HP.out] at t4
          obtain ⟨j1, j2⟩ := HJQ.out q hql
          rw [HP.out] at j2
          have hhq := hhd.out q hql
          obtain ⟨gj, cj', ej, _, _⟩ := own_addrP oj (by omega)
          injection ej with ej _ ec
          subst ej
          subst ec
          obtain ⟨cc0, cc1, cc2⟩ := cells3_at J q hql
          have rj := own_reads oj
          have r0 : wi.cell? ⟨gj, q * 3, none⟩ = some (.int .i64 (((J[q]?.getD (0, 0, 0)).1 : Nat) : Int)) := by
            obtain ⟨hl, e⟩ := List.getElem?_eq_some_iff.1 cc0
            obtain ⟨_, ⟨rfl⟩, hc⟩ := rj (q * 3) hl
            rw [add0P] at hc
            rw [hc, e]
          have r1 : wi.cell? ⟨gj, q * 3 + 1, none⟩ = some (.int .i64 (((J[q]?.getD (0, 0, 0)).2.1 : Nat) : Int)) := by
            obtain ⟨hl, e⟩ := List.getElem?_eq_some_iff.1 cc1
            obtain ⟨_, ⟨rfl⟩, hc⟩ := rj (q * 3 + 1) hl
            rw [add0P] at hc
            rw [hc, e]
          have r2 : wi.cell? ⟨gj, q * 3 + 2, none⟩ = some (.int .i64 (((J[q]?.getD (0, 0, 0)).2.2 : Nat) : Int)) := by
            obtain ⟨hl, e⟩ := List.getElem?_eq_some_iff.1 cc2
            obtain ⟨_, ⟨rfl⟩, hc⟩ := rj (q * 3 + 2) hl
            rw [add0P] at hc
            rw [hc, e]
          have HBJ := hide (fun w6 => HAS.out x (J[q]?.getD (0, 0, 0)) hx4 j1 w6)
          have HPT := hide (show putsTo x J o (q + 1) = putN (putsTo x J o q) (behindP x (J[q]?.getD (0, 0, 0))) from rfl)
          generalize behindP x (J[q]?.getD (0, 0, 0)) = y at *
          have hyw := key_wf (y := y) (by omega)
          generalize putsTo x J o q = o' at *
          generalize J[q]?.getD (0, 0, 0) = jj at *
          obtain ⟨ji, jo, jl⟩ := jj
          simp only at r0 r1 r2
          have q0 : (0 : Int) ≤ (q : Int) := by omega
          have q1 : (q : Int) < (J.length : Int) := by omega
          have HQ := hide hql
          have HPL := hide (show k < o'.length ∧ o'.length ≤ 4096 by omega)
          have st8 := (st.alloc (.cells #[.int .i64 (ji : Int), .int .i64 (jo : Int), .int .i64 (jl : Int)] 52)).drew
          have oj8 := oj.alloc (.cells #[.int .i64 (ji : Int), .int .i64 (jo : Int), .int .i64 (jl : Int)] 52)
          have bj8 : Box (wi.alloc (.cells #[.int .i64 (ji : Int), .int .i64 (jo : Int), .int .i64 (jl : Int)] 52)).drew wi.heap.size 52 #[.int .i64 (ji : Int), .int .i64 (jo : Int), .int .i64 (jl : Int)] := Box.new wi 52 #[.int .i64 (ji : Int), .int .i64 (jo : Int), .int .i64 (jl : Int)]
          have m0 := bj8.cell 0
          have m1 := bj8.cell 1
          have m2 := bj8.cell 2
          obtain ⟨g8, hg8, _, _, bx8⟩ := st8.chain.at_ t2
          have hgg8 : g = g8 := by have h1 := hgk.out; rw [hg8] at h1; injection h1 with h1; exact h1.symm
          have m3 := bx8.cell 0
          rw [t1, ← hgg8] at m3
          have ST8 := hide st8
          have OJ8 := hide (show (wi.alloc (.cells #[.int .i64 (ji : Int), .int .i64 (jo : Int), .int .i64 (jl : Int)] 52)).drew.ownsRow W.heap.size 52 3 (.slice (some ⟨gj, 0, none⟩) J.length cj) J.length (cells3 J) from oj8)
          clear t1 t2 t3 t4 j1 cc0 cc1 cc2 rj st oj st8 oj8 bj8 hg8 bx8 hgg8
          go_wp2_with fail
          go_region_held3 (fun w' => w'.cell? ⟨wi.heap.size, 0, none⟩ = some (.int .i64 (ji : Int)) ∧ w'.cell? ⟨wi.heap.size, 1, none⟩ = some (.int .i64 (jo : Int)) ∧ w'.cell? ⟨wi.heap.size, 2, none⟩ = some (.int .i64 (jl : Int)) ∧ w'.cell? ⟨g, 0, none⟩ = some (.int .i64 (x : Int))) (go_keep)
            (first
              | (go_at_call 42; refine (HBJ.out _).mono ?_
                 rintro e w8 ⟨rfl, b8⟩
                 have st9 := ST8.out.then b8
                 have oj9 := own_below OJ8.out b8
                 have n0 := (b8.cell (World.block_lt_of_cell? _ _ m0)).trans m0
                 have n1 := (b8.cell (World.block_lt_of_cell? _ _ m1)).trans m1
                 have n2 := (b8.cell (World.block_lt_of_cell? _ _ m2)).trans m2
                 have n3 := (b8.cell (World.block_lt_of_cell? _ _ m3)).trans m3
                 clear b8)
              | fail)
          clear m0 m1 m2 m3 n0 n1 n2 n3 ST8 OJ8 HBJ
          cases hcon : o'.contains y with
          | true =>
            have HO := hide (HPT.out.trans (put_old hcon))
            have hlk : D'.atKey (.int .i64 (y : Int)) (.lit (.bool false)) = .lit (.bool true) := (hv.out.2 y).trans (by show DataW.lit (Lit.bool ((o'.drop (k + 1)).contains y)) = _; rw [← hhq, hcon])
            clear hcon hhq HPT hhd
            go_wp2_with (first
              | (at_lookup; refine wpList_lookup_own_bool _ rfl _ _ 61 rfl 3 4 mlawP Try.underlying61 Try.underlying4 (mzeroP _) (W.heap.size + 1 + 1) nm' D' rfl st9.map _ _ rfl (keyOf_int_mk Try.underlying3 hyw) true hlk ?_)
              | go_in)
            exact ⟨⟨q + 1, gs', nm', D', HQ.out, by go_num, ⟨gl', by rw [HO.out]; exact hgl', rfl⟩, hgk, by rw [HO.out]; exact st9, by rw [HO.out]; exact hv, by rw [HO.out]; exact hnm', oj9⟩, by simp [intOf]; omega⟩
          | false =>
            have HO := hide (HPT.out.trans (put_new hcon))
            have hlk : D'.atKey (.int .i64 (y : Int)) (.lit (.bool false)) = .lit (.bool false) := (hv.out.2 y).trans (by show DataW.lit (Lit.bool ((o'.drop (k + 1)).contains y)) = _; rw [← hhq, hcon])
            clear hcon hhq HPT hhd
            go_wp2_with (first
              | (at_lookup; refine wpList_lookup_own_bool _ rfl _ _ 61 rfl 3 4 mlawP Try.underlying61 Try.underlying4 (mzeroP _) (W.heap.size + 1 + 1) nm' D' rfl st9.map _ _ rfl (keyOf_int_mk Try.underlying3 hyw) false hlk ?_)
              | (at_mapUpdate; refine wpList_mapUpdate_own _ rfl _ _ _ 61 rfl 3 4 mlawP Try.underlying61 (plainElem Try.prog 4) (W.heap.size + 1 + 1) nm' D' rfl st9.map (by have := HPL.out; unfold maxLen; omega) _ _ _ rfl rfl (keyOf_int_mk Try.underlying3 hyw) _ [] (plainElem_bool Try.underlying4 true) ?_
                 intro w10 own10 hg10
                 have st10 := st9.mapped hg10 own10
                 have oj10 := (oj9.kept hg10 (.inr (own_nemap oj9 st9.map))).alloc (.cells #[.int .i64 (y : Int), .pointer none] 60)
                 have st11 := st10.alloc (.cells #[.int .i64 (y : Int), .pointer none] 60)
                 obtain ⟨gq, hgq, _, _, bq⟩ := st11.chain.at_ (j := o'.length - 1) (by have := HPL.out; omega)
                 have hgq' : gl' = gq := by rw [hgl'] at hgq; injection hgq
                 subst hgq'
                 have p0 := bq.cell 1
                 have p1 := bq.free 1
                 have OJ := hide (oj10.kept (grown_setP _ ⟨gl', 1, none⟩ (.pointer (some ⟨w10.heap.size, 0, none⟩))) (.inr (own_ne oj10 bq (by decide))))
                 have ST := hide (st10.push hgl' (by have := HPL.out; omega) y)
                 have HLEN2 := hide st10.chain.len
                 clear own10 hg10 st10 oj10 st11 hgq bq)
              | go_in)
            refine ⟨⟨q + 1, gs' ++ [w10.heap.size], nm' + 1, _, HQ.out, by go_num, ⟨w10.heap.size, ?_, rfl⟩, ?_, by rw [HO.out]; exact ST.out, ?_, by rw [HO.out, List.length_append]; simpa using hnm', OJ.out⟩, by simp [intOf]; omega⟩
            · rw [HO.out, List.length_append, List.length_singleton, Nat.add_sub_cancel, ← HLEN2.out, List.getElem?_append_right (Nat.le_refl _)]
              simp
            · have := hgk.out
              show _ = _
              rw [List.getElem?_append_left (List.getElem?_eq_some_iff.1 this).1]
              exact this
            · rw [HO.out]
              exact (hv.out.put y).congr fun t => drop_push o' (show k + 1 ≤ o'.length from HPL.out.1) y t
        · obtain rfl : q = J.length := by omega
          obtain ⟨t1, t2, t3⟩ := HATT.out J.length
          obtain ⟨g8, hg8, _, _, bx8⟩ := st.chain.at_ t2
          have hgg8 : g = g8 := by have h1 := hgk.out; rw [hg8] at h1; injection h1 with h1; exact h1.symm
          have m1 := bx8.cell 1
          rw [← hgg8] at m1
          have hsets : natI (o.take (k + 1)) = natI ((bfsL w n s (k + 1)).take (k + 1)) := by
            rw [HNX.out]
            obtain ⟨e, he⟩ := puts_pre x J o J.length
            rw [he, List.take_append_of_le_length (by omega)]
          rw [← HNX.out] at hgl' hnm' hv st t2
          rw [hsets] at st
          have ST := hide st
          have HT2 := hide t2
          have hlen' := hide hlen
          have hlt' := hide hlt
          clear t1 t2 t3 hg8 bx8 hgg8 hsets st hlen hlt HATT hhd HLQ HJQ oj
          go_wp2_with fail
          exact ⟨⟨k + 1, gs', nm', D', HT2.out, ⟨_, _, rfl⟩, ⟨gl', hgl', rfl⟩, rfl, ST.out, hv, hnm'⟩, by have := hlen'.out; have := hlt'.out; simp [lenV]; omega⟩
    · have hkl : (bfsL w n s k).length = k := by omega
      have HE := hide (HSTOP.out k hkl)
      have hnv : nextV gs k = .pointer none := by
        unfold nextV
        rw [List.getElem?_eq_none (by rw [st.chain.len]; omega)]
        rfl
      have ha' := ha.out
      rw [hnv] at ha'
      subst ha'
      have hown := st.own
      have hb := st.below
      rw [List.take_of_length_le (by omega)] at hown
      have HS := hide (sort_c (.slice A k c) W.heap.size (natI (bfsL w n s k)) wo hown (by rw [natI_len]; omega))
      have hb' := hide hb
      have hown' := hide hown
      clear ha hnv st hv hnm hown hb
      go_wp2_with fail
      refine HS.out.mono ?_
      rintro e w9 ⟨rfl, o9, g9⟩
      go_wp2_with fail
      go_ret
      refine ⟨_, rfl, ?_, below_grown hb'.out hb'.out.size hown'.out (Nat.le_refl _) g9⟩
      rw [HE.out, ascP_eq]
      rw [natI_len] at o9
      exact o9
end Go.Proofs.Ytgbbmnnpphkkbac
