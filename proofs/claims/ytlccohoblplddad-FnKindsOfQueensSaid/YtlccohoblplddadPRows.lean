
/-
  The program's rows of queens as an iterator: what it offers.
-/
import Derived.Test.YtlccohoblplddadPIter
import Derived.Shelf.Abstract
import Derived.Shelf.RegionOpen
import Derived.OwnWalkIn
import Derived.TacticsInMore
import Derived.LoopNIn
import Derived.LoopIn
import Derived.Deep.RegionHeld3
namespace Go.Proofs.Ytlccohoblplddad
open Go.RowKit Go.Shelf
set_option linter.unusedVariables false
attribute [local go_sem] Oper.semAt_some

/-! ### Marks that the loops of a function have left among its deferred calls -/
def Marks (B : Nat) : List Deferred → World → Prop
  | [], _ => True
  | d :: ds, w => ∃ D, d = { target := .collected D, args := #[] } ∧ B ≤ D ∧ w.heap[D]? = some (.deferred (some [])) ∧ Marks B ds w ∧ ∀ D', ({ target := .collected D', args := #[] } : Deferred) ∈ ds → D' < D
theorem Marks.keep {E : Blocks} {B : Nat} {S S' : Blocks} {W W' : World} (k : Keep E B S W S' W') : ∀ {ds : List Deferred}, Marks B ds W → Marks B ds W'
  | [], _ => trivial
  | d :: ds, ⟨D, e, hB, hD, hm, hlt⟩ => ⟨D, e, hB, k.others D _ hB hD rfl, hm.keep k, hlt⟩
theorem Marks.lt {B : Nat} {W : World} : ∀ {ds : List Deferred}, Marks B ds W → ∀ D', ({ target := .collected D', args := #[] } : Deferred) ∈ ds → D' < W.heap.size
  | d :: ds, ⟨D, e, hB, hD, hm, hlt⟩, D', h => by
    rcases List.mem_cons.1 h with h | h
    · rw [e] at h
      injection h with h1
      injection h1 with h1
      subst h1
      exact (Array.getElem?_eq_some_iff.1 hD).1
    · exact hm.lt D' h
theorem Marks.put {B D : Nat} {W : World} {o : Obj} : ∀ {ds : List Deferred}, Marks B ds W → (∀ D', ({ target := .collected D', args := #[] } : Deferred) ∈ ds → D' < D) → Marks B ds (W.putObj D o)
  | [], _, _ => trivial
  | d :: ds, ⟨D', e, hB, hD, hm, hlt⟩, h => ⟨D', e, hB, (World.putObj_heap_other (by have := h D' (by rw [← e]; exact List.mem_cons_self ..); omega)).trans hD, hm.put (fun D'' hd => h D'' (List.mem_cons_of_mem _ hd)), hlt⟩
/-- A function that hands nothing back leaves through its marks. -/
theorem marks_leave {P : Program} {n : Nat} {fn : Func} {tmps : Array Value} {R : Ending → World → Prop} {J : World → Prop} {B : Nat} {v : Value} (hres : ∀ w, (results fn tmps).run P w = .ok v w)
    (hJ : ∀ w l o o', J w → B ≤ l → w.heap[l]? = some o → o.isCells = false → J (w.putObj l o')) (hR : ∀ w, J w → R (.returned v) w) : ∀ (ds : List Deferred) (w : World), Marks B ds w → J w → LeavesInM Fence.wide n P fn tmps R ds .returning w
  | [], w, _, hj => ⟨v, hres w, hR w hj⟩
  | d :: ds, w, ⟨D, e, hB, hD, hm, hlt⟩, hj => by
    subst e
    refine ⟨by simp, .inl ⟨D, _, rfl, run_takeDeferred hD, ?_⟩⟩
    exact marks_leave hres hJ hR ds _ (hm.put hlt) (hJ w D _ _ hj hB hD rfl)
theorem Marks.here {B : Nat} {W : World} : Marks B [] W := trivial
/-- What is kept abides what grows. -/
theorem keep_own {E : Blocks} {B B' : Nat} {S0 : Blocks} {W0 : World} (hB : W0.heap.size ≤ B') : Abide B' (fun _ S W => Keep E B S0 W0 S W) := fun s X Y row hs hg hr =>
  ⟨Nat.le_trans hs.size hg.size, fun g o ho hc hn he => by
    obtain ⟨h1, h2⟩ := hs.cells g o ho hc hn he
    have hlt := (Array.getElem?_eq_some_iff.1 h1).1
    have hlt0 := (Array.getElem?_eq_some_iff.1 ho).1
    exact ⟨(hg.block g hlt (fun e => by have := (hr g e.symm).1; omega)).trans h1, h2⟩,
  fun g o hBg ho hc => by
    have h1 := hs.others g o hBg ho hc
    have hlt := (Array.getElem?_eq_some_iff.1 h1).1
    have hlt0 := (Array.getElem?_eq_some_iff.1 ho).1
    exact (hg.block g hlt (fun e => by have := (hr g e.symm).1; omega)).trans h1⟩

/-- A row that was made longer by one. -/
def Made (B : Nat) (head : List Int) (k : Nat) (v : Value) (w : World) : Prop := ∃ A c, v = .slice A (head.length + 1) c ∧ w.ownsRow B 3 1 (.slice A (head.length + 1) c) (head.length + 1) (ints (head ++ [(k : Int)]))
theorem made_row {B B' : Nat} {head : List Int} {k : Nat} {v : Value} {w : World} (h : w.ownsRow B' 3 1 v (head.length + 1) (ints head ++ [.int .i64 (k : Int)])) (hB : B ≤ B') : Made B head k v w := by
  obtain ⟨A, c, rfl, _⟩ := own_row h
  refine ⟨A, c, rfl, ?_⟩
  rw [show ints (head ++ [(k : Int)]) = ints head ++ [.int .i64 (k : Int)] by simp [ints]]
  exact own_mono h hB
/-- What the iterator keeps from round to round. -/
structure Lies (S : Blocks) (n : Nat) (head first : List Int) (bl bn bf b0 : Nat) (A : Option Addr) (c : Nat) (A0 : Option Addr) (c0 D : Nat) (w : World) : Prop where
  list : BoxC S w bl 27 (.slice A head.length c)
  num : BoxC S w bn 3 (.int .i64 (n : Int))
  fits : BoxC S w bf 44 (.func (.func 47) #[] #[.pointer (some ⟨b0, 0, none⟩)])
  row : Mine D S w (.slice A head.length c) head
  box : BoxC S w b0 27 (.slice A0 first.length c0)
  begin_ : RowC S w A0 (ints first)
theorem Lies.keep {E : Blocks} {B : Nat} {S S' : Blocks} {n : Nat} {head first : List Int} {bl bn bf b0 : Nat} {A : Option Addr} {c : Nat} {A0 : Option Addr} {c0 D : Nat} {w w' : World} (h : Lies S n head first bl bn bf b0 A c A0 c0 D w) (k : Keep E B S w S' w') (hE : ∀ g, g < w.heap.size → ¬ E g) : Lies S' n head first bl bn bf b0 A c A0 c0 D w' :=
  ⟨h.list.keep k (hE _ h.list.lt), h.num.keep k (hE _ h.num.lt), h.fits.keep k (hE _ h.fits.lt), h.row.keep k (fun g e => hE g (h.row.lt g e).2), h.box.keep k (hE _ h.box.lt), h.begin_.keep k (fun ad e hne => hE _ (h.begin_.lt hne ad e))⟩
/-- The iterator's blocks at the start. -/
def Its (bl bn bf b0 : Nat) (A : Option Addr) (A0 : Option Addr) : Blocks := fun g => g = bl ∨ g = bn ∨ g = bf ∨ g = b0 ∨ (∃ ad, A = some ad ∧ ad.block = g) ∨ (∃ ad, A0 = some ad ∧ ad.block = g)
theorem own_blk {A : Option Addr} {n c g : Nat} (h : (Value.slice A n c).ownBlock = some g) : ∃ ad, A = some ad ∧ ad.block = g := by
  cases A with
  | none => cases h
  | some ad => injection h with h; exact ⟨ad, rfl, h⟩
theorem Lies.claim {S : Blocks} {n : Nat} {head first : List Int} {bl bn bf b0 : Nat} {A : Option Addr} {c : Nat} {A0 : Option Addr} {c0 D : Nat} {w : World} (h : Lies (fun _ => False) n head first bl bn bf b0 A c A0 c0 D w) (hs : ∀ g, Its bl bn bf b0 A (if first = [] then none else A0) g → ¬ S g) : Lies S n head first bl bn bf b0 A c A0 c0 D w :=
  ⟨⟨h.list.1, hs _ (.inl rfl)⟩, ⟨h.num.1, hs _ (.inr (.inl rfl))⟩, ⟨h.fits.1, hs _ (.inr (.inr (.inl rfl)))⟩, ⟨h.row.1, fun g e => hs _ (.inr (.inr (.inr (.inr (.inl (own_blk e))))))⟩, ⟨h.box.1, hs _ (.inr (.inr (.inr (.inl rfl))))⟩, ⟨h.begin_.1, fun hne ad e => hs _ (.inr (.inr (.inr (.inr (.inr ⟨ad, by rw [if_neg (fun h => hne (by rw [h]; rfl))]; exact e, rfl⟩)))))⟩⟩

theorem cloneAny_c (A : Option Addr) (c : Nat) (l : List Int) (w : World) (hr : Row w A (ints l)) (hm : l.length ≤ 6) :
    Calls Try.prog 59 #[.slice A l.length c] w (Owns 3 1 l.length (ints l) w) := by
  have q22 : ∀ (w : World) (a : Option Addr) (n c n' c' : Nat), (binOp .eql 27 (.slice a n c) (.slice none n' c')).run Try.prog w = .ok (.bool a.isNone) w := fun w a n c n' c' => Lib.run_eql_slice_nil w _ _ a n c n' c' Try.underlying27
  cases A with
  | none =>
    obtain rfl : l = [] := by
      cases l with
      | nil => rfl
      | cons x l => obtain ⟨_, h, _⟩ := hr 0 (by simp); cases h
    go_enter Try.func59, Try.ntmps59
    go_wp2_with fail
    go_ret
    exact ⟨_, rfl, World.ownsRow_nil _ _ _ _, Below.refl _ _⟩
  | some ad =>
    have oe := World.ownsRow_made (base := w.heap.size) (e := 3) (size := 1) w #[] 0 (Nat.le_refl _) (by simp [maxLen]) rfl
    have hb := (Below.refl w.heap.size w).alloc (Nat.le_refl _) (.cells #[] 3)
    have hr2 := hr.below hb
    go_enter Try.func59, Try.ntmps59
    go_wp2_with ((at_builtin; refine put_own rfl (.tmp 5) (.tmp 6) rfl Try.underlying27 elem_int' rfl oe rfl (m := l.length) (news := ints l) (by simp) hr2 (one_ints _) (by omega) (by omega) hb.size ?_; intro v2 w2 own2 hg2 ho2))
    go_ret
    exact ⟨v2, rfl, by simpa using own2, below_grown hb hb.size oe (Nat.le_refl _) hg2⟩

set_option maxHeartbeats 4000000 in
set_option maxRecDepth 100000 in
theorem rows_offer (n : Nat) (h1 : 1 ≤ n) (h6 : n ≤ 6) (first : List Int) (hf6 : first.length ≤ 6) (b0 : Nat) (A0 : Option Addr) (c0 : Nat) :
    ∀ (m : Nat) (head : List Int) (A : Option Addr) (c bl bn bf D : Nat) (w : World), head.length + m = n → Heads n head → Lies (fun _ => False) n head first bl bn bf b0 A c A0 c0 D w → D ≤ w.heap.size →
      Offers Try.prog 58 #[.pointer (some ⟨bl, 0, none⟩), .pointer (some ⟨bn, 0, none⟩), .pointer (some ⟨bf, 0, none⟩)] D (rowsP n (fitP first) m head) (Its bl bn bf b0 A (if first = [] then none else A0)) w := by
  intro m
  induction m with
  | zero =>
    intro head A c bl bn bf D w hlen hh hL hD l J S0 W hW hJ hJC hG hY h0
    have kW : Keep (fun _ => False) W.heap.size S0 w S0 W := Keep.grow (grown_below hW)
    have hg1 := World.grownBy_alloc W (.cells #[.func (.yield l) #[] #[]] 46) none
    have LW := ((hL.claim hG).keep kW (fun _ _ h => h)).keep (Keep.grow (E := fun _ => False) (B := W.heap.size) hg1) (fun _ _ h => h)
    have J1 := hJ ([], S0) W _ none h0 hg1 (fun r e => by cases e)
    obtain ⟨fn, tmps, assign, body, hy, hR⟩ := hY 8 [] S0 head A c _ J1 LW.row (List.prefix_refl _)
    have q1 := LW.list.1.cell
    have q2 := LW.num.1.cell
    have heq : ((head.length : Int) == (n : Int)) = true := by rw [beq_iff_eq]; omega
    refine (callsIn_wide (n := 9)).1 (callsIn_of_wp_marks Try.func58 rfl trivial ?_)
    simp only [Try.ntmps58, List.size_toArray, List.length_cons, List.length_nil, Nat.reduceAdd, Nat.reduceSub, Array.replicate_succ, Array.replicate_zero, List.push_toArray, List.append_toArray, List.nil_append, List.cons_append]
    gi_wp2
    refine hR.mono ?_
    rintro e W' ⟨rfl, S', hJ', hk⟩
    gi_wp2
    exact ⟨_, results_none rfl _ _ _, ⟨_, rfl⟩, S', hJ'⟩
  | succ m ih =>
    intro head A c bl bn bf D w hlen hh hL hD l J S0 W hW hJ hJC hG hY h0
    have kW : Keep (fun _ => False) W.heap.size S0 w S0 W := Keep.grow (grown_below hW)
    have hg1 := World.grownBy_alloc W (.cells #[.func (.yield l) #[] #[]] 46) none
    have LW := ((hL.claim hG).keep kW (fun _ _ h => h)).keep (Keep.grow (E := fun _ => False) (B := W.heap.size) hg1) (fun _ _ h => h)
    have J1 := hJ ([], S0) W _ none h0 hg1 (fun r e => by cases e)
    have y1 : BoxC S0 (W.alloc (.cells #[.func (.yield l) #[] #[]] 46)) W.heap.size 46 (.func (.yield l) #[] #[]) := ⟨Boxed.new W _ _, fun h => absurd (hJC _ _ _ h0 _ h) (by omega)⟩
    have z1 : (W.alloc (.cells #[.func (.yield l) #[] #[]] 46)).heap.size = W.heap.size + 1 := by simp
    have q1 := LW.list.1.cell
    have q2 := LW.num.1.cell
    have heq : ((head.length : Int) == (n : Int)) = false := by rw [beq_eq_false_iff_ne]; omega
    refine (callsIn_wide (n := 9)).1 (callsIn_of_wp_marks Try.func58 rfl trivial ?_)
    simp only [Try.ntmps58, List.size_toArray, List.length_cons, List.length_nil, Nat.reduceAdd, Nat.reduceSub, Array.replicate_succ, Array.replicate_zero, List.push_toArray, List.append_toArray, List.nil_append, List.cons_append]
    gi_wp2
    generalize hW1 : W.alloc (.cells #[.func (.yield l) #[] #[]] 46) = W1 at *
    have HJ0 : J (rowsTo n (fitP first) m head 0) S0 W1 := J1
    refine wpIn_loop (fun a wr => ∃ (k : Nat) (ds : List Deferred) (S : Blocks) (u5 u6 u16 u17 u18 u19 u20 u21 u22 u23 u24 u25 u26 u27 u28 u29 u30 u31 u32 u33 u34 u35 u36 : Value), a = { tmps := #[.func (.yield l) #[] #[], .pointer (some ⟨bl, 0, none⟩), .pointer (some ⟨bn, 0, none⟩), .pointer (some ⟨bf, 0, none⟩), .pointer (some ⟨W.heap.size, 0, none⟩), u5, u6, .slice A head.length c, .int .i64 (head.length : Int), .int .i64 (n : Int), .bool false, undef, undef, undef, .int .i64 (n : Int), .int .i64 (k : Int), u16, u17, u18, u19, u20, u21, u22, u23, u24, u25, u26, u27, u28, u29, u30, u31, u32, u33, u34, u35, u36], defers := ds } ∧ k ≤ n ∧ Marks W.heap.size ds wr ∧ J (rowsTo n (fitP first) m head k) S wr ∧ Keep (fun g => W1.heap.size ≤ g) W.heap.size S0 W1 S wr)
      (fun a _ => n - (intOf (a.tmps.getD 15 undef)).toNat) ⟨0, [], S0, _, _, _, _, _, _, _, _, _, _, _, _, _, _, _, _, _, _, _, _, _, _, _, rfl, Nat.zero_le _, trivial, HJ0, Keep.refl _ _ _ _⟩ ?_
    rintro _ wr ⟨k, ds, S, u5, u6, u16, u17, u18, u19, u20, u21, u22, u23, u24, u25, u26, u27, u28, u29, u30, u31, u32, u33, u34, u35, u36, rfl, hk, hm, hj, hkp⟩
    obtain ⟨wo, rfl⟩ : ∃ wo : World, wo = wr := ⟨_, rfl⟩
    have hEE : ∀ g, g < W1.heap.size → ¬ W1.heap.size ≤ g := fun g h => by omega
    have LR := LW.keep hkp hEE
    clear q1 q2
    have ql := LR.list.1.cell
    have qn := LR.num.1.cell
    have qf := LR.fits.1.cell
    by_cases hlt : k < n
    · have HF := hide (fits_c b0 A0 c0 first A c head (k : Int) wo LR.box.1.cell LR.begin_.1 hf6 (own_reads LR.row.1) (hh.small h6 (by omega)) (by omega) (by omega))
      have hs := hide (rowsTo_succ n (fitP first) m head k)
      cases hfit : fitP first head (k : Int) with
      | false =>
        rw [hfit] at HF hs
        have hs2 : Hid (rowsTo n (fitP first) m head (k + 1) = rowsTo n (fitP first) m head k) := by show _ = _; rw [hs.out]; simp
        have HM := hide hm
        have HJ := hide hj
        have HK := hide hkp
        clear hm hj hkp LW LR
        gi_wp2
        refine ⟨trivial, (callsIn_wide.2 HF.out).mono ?_⟩
        rintro e w7 ⟨rfl, rfl⟩
        gi_wp2
        refine ⟨⟨k + 1, ds, S, _, _, _, _, _, _, _, _, _, _, _, _, _, _, _, _, _, _, _, _, _, _, _, by go_num, hlt, HM.out, ?_, HK.out⟩, ?_⟩
        · rw [hs2.out]; exact HJ.out
        · simp [intOf]; omega
      | true =>
        rw [hfit] at HF hs
        have hs2 : Hid (rowsTo n (fitP first) m head (k + 1) = rowsTo n (fitP first) m head k ++ rowsP n (fitP first) m (head ++ [(k : Int)])) := by show _ = _; rw [hs.out]; simp
        have HM := hide hm
        have HJ := hide hj
        have HK := hide hkp
        clear hm hj hkp
        gi_wp2
        refine ⟨trivial, (callsIn_wide.2 HF.out).mono ?_⟩
        rintro e w7 ⟨rfl, rfl⟩
        gi_wp2
        -- the region that draws its order
        have HCl := hide (fun (w5 : World) (h5 : Row w5 A (ints head)) => cloneAny_c A c head w5 h5 (by omega))
        have HRB := hide (fun (A' : Option Addr) (c' : Nat) (w5 : World) => rowsBehind_c (n : Int) A' (head.length + 1) c' 47 #[.pointer (some ⟨b0, 0, none⟩)] w5)
        have hr0 := own_reads LR.row.1
        have hl6 : head.length ≤ 6 := by omega
        have bn0 := World.block_lt_of_cell? _ _ qn
        have bl0 := World.block_lt_of_cell? _ _ ql
        have bf0 := World.block_lt_of_cell? _ _ qf
        simp only at bn0 bl0 bf0
        have bx : Below wo.heap.size wo (wo.alloc (.cells #[.int .i64 (k : Int)] 3)) := (Below.refl _ wo).alloc (Nat.le_refl _) _
        have hr1 := hr0.below bx
        have rx : Row (wo.alloc (.cells #[.int .i64 (k : Int)] 3)) (some ⟨wo.heap.size, 0, none⟩) [.int .i64 (k : Int)] := row_new wo #[.int .i64 (k : Int)] 3 rfl
        refine wpIn_mono (Q := fun e a' w' => e = Exit.normal ∧ ∃ (A3 : Option Addr) (c3 g : Nat) (v25 v27 : Value), a' = { tmps := #[.func (.yield l) #[] #[], .pointer (some ⟨bl, 0, none⟩), .pointer (some ⟨bn, 0, none⟩), .pointer (some ⟨bf, 0, none⟩), .pointer (some ⟨W.heap.size, 0, none⟩), .int .i64 (k : Int), u6, .slice A head.length c, .int .i64 (head.length : Int), .int .i64 (n : Int), .bool false, undef, undef, undef, .int .i64 (n : Int), .int .i64 (k : Int), .bool true, .int .i64 (k : Int), .func (.func 47) #[] #[.pointer (some ⟨b0, 0, none⟩)], .slice A head.length c, .int .i64 (k : Int), .bool true, .bool false,
            .int .i64 (n : Int), .slice A head.length c, v25, .int .i64 (k : Int), v27, .slice A3 (head.length + 1) c3, .func (.func 47) #[] #[.pointer (some ⟨b0, 0, none⟩)], .func (.func 58) #[] #[.pointer (some ⟨g + 1, 0, none⟩), .pointer (some ⟨g, 0, none⟩), .pointer (some ⟨g + 2, 0, none⟩)], u31, u32, u33, u34, u35, u36], defers := ds } ∧
            wo.heap.size ≤ g ∧ Boxed w' g 3 (.int .i64 (n : Int)) ∧ Boxed w' (g + 1) 27 (.slice A3 (head.length + 1) c3) ∧ Boxed w' (g + 2) 44 (.func (.func 47) #[] #[.pointer (some ⟨b0, 0, none⟩)]) ∧ w'.ownsRow wo.heap.size 3 1 (.slice A3 (head.length + 1) c3) (head.length + 1) (ints (head ++ [(k : Int)])) ∧ Below wo.heap.size wo w') ?region ?after
        case region =>
          refine wpIn_wide.2 ?_
          clear hY ih HJ0 J1 HJ hJ hJC h0 hG
          go_region_held3 (fun w' => w'.cell? ⟨bn, 0, none⟩ = some (.int .i64 (n : Int)) ∧ w'.cell? ⟨bl, 0, none⟩ = some (.slice A head.length c) ∧ w'.cell? ⟨bf, 0, none⟩ = some (.func (.func 47) #[] #[.pointer (some ⟨b0, 0, none⟩)])) (go_keep)
            (first
              | (go_at_call 59; refine (HCl.out _ hr0.drew).mono ?_; rintro e w2 ⟨v2, rfl, own2, b2⟩
                 have b02 : Below wo.heap.size wo w2 := below_then (Below.refl wo.heap.size wo).drew (Nat.le_refl _) b2
                 have kn2 := (b02.cell (p := ⟨bn, 0, none⟩) bn0).trans qn
                 have kl2 := (b02.cell (p := ⟨bl, 0, none⟩) bl0).trans ql
                 have kf2 := (b02.cell (p := ⟨bf, 0, none⟩) bf0).trans qf)
              | (go_at_call 59; refine (HCl.out _ hr1.drew).mono ?_; rintro e w2 ⟨v2, rfl, own2, b2⟩
                 have b02 : Below wo.heap.size wo w2 := below_then bx.drew bx.size b2
                 have rx2 := rx.drew.below b2
                 have kn2 := (b02.cell (p := ⟨bn, 0, none⟩) bn0).trans qn
                 have kl2 := (b02.cell (p := ⟨bl, 0, none⟩) bl0).trans ql
                 have kf2 := (b02.cell (p := ⟨bf, 0, none⟩) bf0).trans qf)
              | (refine step_put (by rfl) (.tmp 25) (.tmp 27) (by rfl) Try.underlying27 elem_int' (v := v2) (A := some ⟨w2.heap.size, 0, none⟩) (m := 1) (c := 1) (news := [.int .i64 (k : Int)]) (B := wo.heap.size) (by rfl) (own2.alloc _) (by rfl) (by rfl) (row_new w2 _ _ rfl) (by simp [Value.oneCell']) (by omega) (by omega) (by have := b02.size; simp; omega) ?_
                 intro v3 w3 own3 hg3 ho3
                 have b03 : Below wo.heap.size wo w3 := below_grown (b02.alloc b02.size _) (by have := b02.size; simp; omega) (own2.alloc _) (Nat.le_refl _) hg3
                 have hA3 : Made wo.heap.size head k v3 w3 := made_row own3 (Nat.le_refl _)
                 obtain ⟨A3, c3, rfl, r3⟩ := hA3
                 have kn3 := (b03.cell (p := ⟨bn, 0, none⟩) bn0).trans qn
                 have kl3 := (b03.cell (p := ⟨bl, 0, none⟩) bl0).trans ql
                 have kf3 := (b03.cell (p := ⟨bf, 0, none⟩) bf0).trans qf)
              | (refine step_put (by rfl) (.tmp 25) (.tmp 27) (by rfl) Try.underlying27 elem_int' (v := v2) (A := some ⟨wo.heap.size, 0, none⟩) (m := 1) (c := 1) (news := [.int .i64 (k : Int)]) (B := (wo.alloc (.cells #[.int .i64 (k : Int)] 3)).heap.size) (by rfl) own2 (by rfl) (by rfl) rx2 (by simp [Value.oneCell']) (by omega) (by omega) b2.size ?_
                 intro v3 w3 own3 hg3 ho3
                 have b03 : Below wo.heap.size wo w3 := below_grown b02 b02.size own2 (by simp) hg3
                 have hA3 : Made wo.heap.size head k v3 w3 := made_row own3 (by simp)
                 obtain ⟨A3, c3, rfl, r3⟩ := hA3
                 have kn3 := (b03.cell (p := ⟨bn, 0, none⟩) bn0).trans qn
                 have kl3 := (b03.cell (p := ⟨bl, 0, none⟩) bl0).trans ql
                 have kf3 := (b03.cell (p := ⟨bf, 0, none⟩) bf0).trans qf)
              | (go_at_call 46; refine (HRB.out A3 c3 w3).mono ?_; rintro e w5 ⟨rfl, rfl⟩
                 have b05 : Below wo.heap.size wo (((w3.alloc (.cells #[.int .i64 (n : Int)] 3)).alloc (.cells #[.slice A3 (head.length + 1) c3] 27)).alloc (.cells #[.func (.func 47) #[] #[.pointer (some ⟨b0, 0, none⟩)]] 44)) := ((b03.alloc b03.size _).alloc (by have := b03.size; simp; omega) _).alloc (by have := b03.size; simp; omega) _
                 have kn5 := (b05.cell (p := ⟨bn, 0, none⟩) bn0).trans qn
                 have kl5 := (b05.cell (p := ⟨bl, 0, none⟩) bl0).trans ql
                 have kf5 := (b05.cell (p := ⟨bf, 0, none⟩) bf0).trans qf))
          all_goals
            refine ⟨rfl, A3, c3, w3.heap.size, _, _, rfl, b03.size, ?_, ?_, ?_, ?_, b05⟩
            · exact ((Boxed.new w3 3 _).alloc _).alloc _
            · have hb1 := Boxed.new (w3.alloc (.cells #[.int .i64 (n : Int)] 3)) 27 (.slice A3 (head.length + 1) c3)
              rw [World.size_alloc] at hb1
              exact hb1.alloc _
            · have hb1 := Boxed.new ((w3.alloc (.cells #[.int .i64 (n : Int)] 3)).alloc (.cells #[.slice A3 (head.length + 1) c3] 27)) 44 (.func (.func 47) #[] #[.pointer (some ⟨b0, 0, none⟩)])
              rw [World.size_alloc, World.size_alloc] at hb1
              exact hb1
            · exact ((r3.alloc _).alloc _).alloc _
        case after =>
          rintro e a' w' ⟨rfl, A3, c3, g, v25, v27, rfl, hg, B1, B2, B3, r3, b05⟩
          gi_wp2
          have hW1w : W1.heap.size ≤ wo.heap.size := HK.out.size
          have hDw : D ≤ wo.heap.size := by have := hW.size; omega
          have hWw : W.heap.size ≤ w'.heap.size := by have := b05.size; omega
          have hgr := grown_below b05
          have kx : ∀ E B, Keep E B S wo S w' := fun E B => Keep.grow hgr
          have hnew : ∀ x, wo.heap.size ≤ x → ¬ S x := fun x hx h => absurd (hJC _ _ _ HJ.out x h) (by omega)
          have hlen3 : (head ++ [(k : Int)]).length = head.length + 1 := by simp
          have L3 := LR.keep (kx (fun _ => False) 0) (fun _ _ h => h)
          have Lin : Lies (fun _ => False) n (head ++ [(k : Int)]) first (g + 1) g (g + 2) b0 A3 c3 A0 c0 wo.heap.size w' :=
            ⟨⟨by rw [hlen3]; exact B2, fun h => h⟩, ⟨B1, fun h => h⟩, ⟨B3, fun h => h⟩, ⟨by rw [hlen3]; exact r3, fun _ _ h => h⟩, ⟨L3.box.1, fun h => h⟩, ⟨L3.begin_.1, fun _ _ _ h => h⟩⟩
          have hoff := ih (head ++ [(k : Int)]) A3 c3 (g + 1) g (g + 2) wo.heap.size w' (by rw [hlen3]; omega) (hh.snoc hlt) Lin b05.size
          have hG3 : ∀ x, Its (g + 1) g (g + 2) b0 A3 (if first = [] then none else A0) x → ¬ S x := by
            rintro x (rfl | rfl | rfl | rfl | ⟨ad, rfl, rfl⟩ | ⟨ad, e0, rfl⟩)
            · exact hnew _ (by omega)
            · exact hnew _ hg
            · exact hnew _ (by omega)
            · exact L3.box.2
            · exact hnew _ (r3.lt ad.block rfl).1
            · by_cases hne : first = []
              · rw [if_pos hne] at e0; cases e0
              · rw [if_neg hne] at e0; exact L3.begin_.2 (fun h => hne (List.map_eq_nil_iff.1 h)) ad e0
          have hj2 : J (rowsTo n (fitP first) m head k) S w' := hJ (_, S) wo w' none HJ.out hgr (fun r e => by cases e)
          have hkpx := (HK.out).trans (kx _ _)
          have HS2 := hide (fun (pre : List (List Int)) (h : pre <+: rowsP n (fitP first) m (head ++ [(k : Int)])) => show rowsTo n (fitP first) m head k ++ pre <+: rowsP n (fitP first) (m + 1) head by
            refine List.IsPrefix.trans ?_ (show rowsTo n (fitP first) m head (k + 1) <+: rowsTo n (fitP first) m head n by
              have := rowsTo_pre n (fitP first) m head (k + 1) (n - (k + 1))
              rwa [show k + 1 + (n - (k + 1)) = n by omega] at this)
            rw [hs2.out]
            obtain ⟨t, ht⟩ := h
            exact ⟨t, by rw [← ht, List.append_assoc]⟩)
          refine range_offers (gf := 58) (lb := #[.pointer (some ⟨g + 1, 0, none⟩), .pointer (some ⟨g, 0, none⟩), .pointer (some ⟨g + 2, 0, none⟩)]) rfl (enters_of Try.func58 (by kernel_rfl) rfl) hoff rfl
            (fun pre S' X => J (rowsTo n (fitP first) m head k ++ pre) S' X ∧ Keep (fun g => W1.heap.size ≤ g) W.heap.size S w' S' X) S
            (fun s X Y row hs' hg' hr' => ⟨hJ (_, s.2) X Y row hs'.1 hg' (fun r e => ⟨Nat.le_trans hWw (hr' r e).1, (hr' r e).2⟩), keep_own (Nat.le_refl _) s X Y row hs'.2 hg' hr'⟩)
            (fun pre S' X h => hJC _ S' X h.1) hG3 ⟨by rw [List.append_nil]; exact hj2, Keep.refl _ _ _ _⟩
            (fun v => { tmps := #[.func (.yield l) #[] #[], .pointer (some ⟨bl, 0, none⟩), .pointer (some ⟨bn, 0, none⟩), .pointer (some ⟨bf, 0, none⟩), .pointer (some ⟨W.heap.size, 0, none⟩), .int .i64 (k : Int), v, .slice A head.length c, .int .i64 (head.length : Int), .int .i64 (n : Int), .bool false, undef, undef, undef, .int .i64 (n : Int), .int .i64 (k : Int), .bool true, .int .i64 (k : Int), .func (.func 47) #[] #[.pointer (some ⟨b0, 0, none⟩)], .slice A head.length c, .int .i64 (k : Int), .bool true, .bool false,
              .int .i64 (n : Int), .slice A head.length c, v25, .int .i64 (k : Int), v27, .slice A3 (head.length + 1) c3, .func (.func 47) #[] #[.pointer (some ⟨b0, 0, none⟩)], .func (.func 58) #[] #[.pointer (some ⟨g + 1, 0, none⟩), .pointer (some ⟨g, 0, none⟩), .pointer (some ⟨g + 2, 0, none⟩)], v, u32, u33, u34, u35, u36], defers := [] }) ?assign ?body ?done
          case assign =>
            intro l' v X K hK
            gi_wp2
            exact hK
          case body =>
            rintro l' pre S' x Ax cx X hX ⟨hjx, hkx⟩ hrx hpx
            have qy := (((y1.keep hkpx (show ¬ W1.heap.size ≤ W.heap.size by omega)).keep hkx (show ¬ W1.heap.size ≤ W.heap.size by omega)).1).cell
            have hxlt := hrx.lt
            obtain ⟨fn, tmps, assign, body, hy, hR⟩ := hY 8 (rowsTo n (fitP first) m head k ++ pre) S' x Ax cx X hjx (hrx.mono hDw) (by rw [List.append_assoc]; exact HS2.out _ hpx)
            replace hR : RoundIn (Fence.wide.inRound l') 8 Try.prog l fn tmps assign body X _ := hR
            gi_wp2
            refine hR.mono ?_
            rintro e X' ⟨rfl, S'', hj', hk'⟩
            gi_wp2
            exact ⟨S'', hk'.mono hWw (fun _ h => h), by rw [← List.append_assoc]; exact hj', hkx.trans (hk'.mono (Nat.le_refl _) (fun g h => by have := (hxlt g h).1; omega))⟩
          case done =>
            rintro D' S' X hD' ⟨hjx, hkx⟩ hDx
            gi_wp2
            refine ⟨⟨k + 1, { target := .collected D', args := #[] } :: ds, S', _, _, _, _, _, _, _, _, _, _, _, _, _, _, _, _, _, _, _, _, _, _, _, by go_num, hlt, ⟨D', rfl, by omega, hDx, HM.out.keep ((kx _ _).trans hkx), fun D'' h => by have := HM.out.lt D'' h; have := b05.size; omega⟩, ?_, hkpx.trans hkx⟩, ?_⟩
            · rw [hs2.out]; exact hjx
            · simp [intOf]; omega
    · obtain rfl : k = n := by omega
      have HJ := hide hj
      have HM := hide hm
      clear hm hj hkp LW LR
      gi_wp2
      exact marks_leave (J := fun w => J (rowsP k (fitP first) (m + 1) head) S w) (results_none rfl _ _) (fun w l o o' h hB' hl ho => OwnFrom.putObj hJ (s := (_, S)) _ h hB' hl ho) (fun w h => ⟨⟨_, rfl⟩, S, h⟩) ds wo HM.out HJ.out
end Go.Proofs.Ytlccohoblplddad
