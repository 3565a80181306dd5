
/-
  coversByRows, its thirteenth region: 'next[way] += count' at an array key: the look-up before or behind the entry.
-/
import Derived.Test.YtnikgnicjbcbmaaDoorPTileN
import Derived.Deep.RegionHeld3
namespace Go.Proofs.YtnikgnicjbcbmaaDoor
open Go.RowKit Go.Maps Go.ChangeShapes Go.WideShapes Go.ChangeMaps
set_option linter.unusedVariables false

/-- The entry is the update with what stands there: so the map is owned behind it too, and reads the same. -/
theorem entry_same {P : Program} {w : World} {t k e : TypeId} {q : IntKind} (KL : WideMaps.KeyLaw P k) (ht : P.underlying t = some (.map k e)) (he : P.underlying e = some (.int q)) (hz : ∀ u : World, (zeroValue e).run P u = .ok (.int q 0) u) {b n : Nat} {D : DataW Unit}
    (hown : w.ownsMap P k (plainElem P e) b n D) (hn : n < maxLen) {key : Value} {kl : Lit} (hkey : keyOf P k key = some kl) {y : Int} (hy : D.atKey kl (.lit (.int q 0)) = .lit (.int q y)) :
    ∃ (st : Nat) (w1 : World), (Instr.mapEntry t (.map (some b)) key).run P w = .ok (.tuple #[.int q y, goInt st]) w1 ∧ w1.ownsMap P k (plainElem P e) b (n + 1) (D.put kl (.lit (.int q y))) ∧ w.grownBy w1 (some b) ∧ Stores P k e t b n D kl w1 st := by
  obtain ⟨c, hlook, hat, hwc⟩ := hown.lookup_int (Keyed.of_law KL) ht he (hz _) hkey
  rw [hy] at hat
  injection hat with hat
  injection hat with _ hat
  subst hat
  have hpl : plainElem (H := Unit) P e (.int q y) = some (.lit (.int q y), []) := plainElem_int he hwc
  have hown0 := hown
  obtain ⟨es, clock, hb, F, hs, hD⟩ := hown
  have hsame : ∃ (st : Nat) (w1 : World), (Instr.mapEntry t (.map (some b)) key).run P w = .ok (.tuple #[.int q y, goInt st]) w1 ∧ (Instr.mapUpdate t (.map (some b)) key (.int q y)).run P w = .ok () w1 := by
    rcases KL.find w hkey es.toList F.keys with ⟨h1, h2⟩ | ⟨j, e0, h1, h2, h3⟩
    · have hl : (.int q 0 : Value) = .int q y := by
        have := hlook
        simp [Instr.lookup, run_underlying ht, MapKept.run_getObj_map hb, KL.check w _ hkey, h1, hz, Result.andThen] at this
        first | exact congrArg _ this | simp [this]
      refine ⟨clock, setBlock w b (.map (es.push ⟨key, .int q y, clock⟩) (clock + 1)), ?_, ?_⟩
      · simp [Instr.mapEntry, run_underlying ht, MapKept.run_getObj_map hb, KL.check w _ hkey, h1, hz, MapKept.run_setObj_map _ hb, Result.andThen, hl, setBlock]
      · simp [Instr.mapUpdate, run_underlying ht, MapKept.run_getObj_map hb, KL.check w _ hkey, h1, MapKept.run_setObj_map _ hb, Result.andThen, setBlock]
    · have hj : es[j]? = some e0 := by simpa using h2
      have hl : e0.val = .int q y := by
        have := hlook
        simp [Instr.lookup, run_underlying ht, MapKept.run_getObj_map hb, KL.check w _ hkey, h1, Result.andThen] at this
        exact this
      have hm : es.modify j (fun e' => { e' with key := key }) = es.modify j (fun e' => { e' with key := key, val := .int q y }) := by
        apply Array.ext'
        rw [Array.toList_modify, Array.toList_modify, modify_eq_set _ _ _ _ h2, modify_eq_set _ _ _ _ h2, ← hl]
      refine ⟨e0.born, setBlock w b (.map (es.modify j (fun e' => { e' with key := key, val := .int q y })) clock), ?_, ?_⟩
      · simp [Instr.mapEntry, run_underlying ht, MapKept.run_getObj_map hb, KL.check w _ hkey, h1, hj, h3, KL.stays w hkey, MapKept.run_setObj_map _ hb, Result.andThen, hl, hm, setBlock]
      · simp [Instr.mapUpdate, run_underlying ht, MapKept.run_getObj_map hb, KL.check w _ hkey, h1, hj, h3, KL.stays w hkey, MapKept.run_setObj_map _ hb, Result.andThen, setBlock]
  obtain ⟨st, w1, r1, r2⟩ := hsame
  obtain ⟨w', hu, o1, o2⟩ := hown0.update (Keyed.of_law KL) ht hn hkey hpl
  have hw' : w' = w1 := by
    have := hu.symm.trans r2
    injection this
  subst hw'
  obtain ⟨v0, st', es1, clock1, hrun, _, hst⟩ := WideElems.entry_then_store KL ht hz hb F hkey
  have hrr := hrun.symm.trans r1
  injection hrr with hv hw1
  have hv0 : v0 = .int q y := by
    simp at hv
    exact hv.1
  refine ⟨st', w', by rw [← hv0, ← hw1]; exact hrun, o1, o2, fun w2 val d ps hw2 hval => ?_⟩
  have hw2' : w2.heap[b]? = some (.map es1 clock1) := by
    rw [hw2, ← hw1]
    exact heap_setBlock_same hb _
  obtain ⟨es', clock', hrun2, hrun3⟩ := hst w2 val hw2'
  obtain ⟨w4, hrun4, hown4, _⟩ := hown0.update (Keyed.of_law KL) ht hn hkey hval
  have he' : w4 = setBlock w b (.map es' clock') := by
    have := hrun4.symm.trans hrun3
    injection this
  subst he'
  obtain ⟨es5, clock5, hb5, F5, hs5, hD5⟩ := hown4
  have := hb5.symm.trans (heap_setBlock_same hb _)
  injection this with this
  injection this with e1 e2
  subst e1 e2
  exact ⟨_, hrun2, ⟨es5, clock5, heap_setBlock_same hw2' _, F5, hs5, hD5⟩, ⟨rfl, rfl, rfl, by simp [setBlock], fun i _ hi => heap_setBlock_other hw2' _ (fun e => hi (by rw [e]))⟩⟩

def ops13 : Array Oper :=
  #[{ dst := some 49, op := Op.move (Operand.tmp 9), type := 59, pos := "c5_domino.go:104", after := #[], guard := none },
  { dst := some 50, op := Op.load 58 (Operand.tmp 13), type := 58, pos := "c5_domino.go:104", after := #[], guard := none },
  { dst := some 51, op := Op.lookup 59 (Operand.tmp 49) (Operand.tmp 50) false, type := 3, pos := "c5_domino.go:104", after := #[{ on := 0, ground := Ground.data }, { on := 1, ground := Ground.data }], guard := none },
  { dst := some 52, op := Op.move (Operand.tmp 11), type := 3, pos := "c5_domino.go:104", after := #[], guard := none },
  { dst := some 53, op := Op.binOp BinOp.add 3 (Operand.tmp 51) (Operand.tmp 52) 3, type := 3, pos := "c5_domino.go:104", after := #[{ on := 2, ground := Ground.data }, { on := 3, ground := Ground.data }], guard := none },
  { dst := some 54, op := Op.mapEntry 59 (Operand.tmp 49) (Operand.tmp 50), type := 0, pos := "c5_domino.go:104", after := #[{ on := 0, ground := Ground.data }, { on := 1, ground := Ground.data }, { on := 0, ground := Ground.phase }, { on := 1, ground := Ground.phase }, { on := 2, ground := Ground.textOnly Departure.mapOpAssignEntry }, { on := 3, ground := Ground.phase }, { on := 4, ground := Ground.textOnly Departure.mapOpAssignEntry }], guard := none },
  { dst := some 55, op := Op.extract (Operand.tmp 54) 1, type := 3, pos := "c5_domino.go:104", after := #[{ on := 5, ground := Ground.data }], guard := none },
  { dst := none, op := Op.entryStore 59 (Operand.tmp 49) (Operand.tmp 55) (Operand.tmp 53), type := 0, pos := "c5_domino.go:104", after := #[{ on := 0, ground := Ground.data }, { on := 6, ground := Ground.data }, { on := 4, ground := Ground.data }, { on := 5, ground := Ground.chain }, { on := 0, ground := Ground.phase }, { on := 1, ground := Ground.phase }, { on := 2, ground := Ground.phase }, { on := 3, ground := Ground.phase }, { on := 4, ground := Ground.phase }, { on := 5, ground := Ground.phase }, { on := 6, ground := Ground.phase }], guard := none }]

/-- STEPS. -/
theorem step_add {ops : Array Oper} {o : Oper} {a : Act} {w : World} {K : Act → World → Prop} {Q : Exit → Act → World → Prop} {E : Prop} (hgd : o.guard = none) (x z : Operand) (hop : o.op = Op.binOp BinOp.add 3 x z 3) {i j : Int}
    (hx : a.eval x = .int .i64 i) (hz : a.eval z = .int .i64 j) (hs : IntKind.i64.wrap (i + j) = i + j) (h : K (a.put o.dst (.int .i64 (i + j))) w) : if Region.wanted o (yielded ops a.tmps) = true then Oper.wp Tryd.prog o a w K Q else E := by
  have hw : Region.wanted o (yielded ops a.tmps) = true := by simp [Region.wanted, hgd]
  rw [if_pos hw]
  have hadd : (binOp BinOp.add 3 (.int .i64 i) (.int .i64 j)).run Tryd.prog w = .ok (.int .i64 (IntKind.i64.wrap (i + j))) w := by kernel_rfl
  rw [hs] at hadd
  have heg : (eqGuard BinOp.add 3 x z (.int .i64 i) (.int .i64 j)).run Tryd.prog w = .ok () w := by kernel_rfl
  unfold Oper.wp
  simp [execOp, hop, hx, hz, hadd, heg, Result.andThen]
  exact h
theorem step_extract {ops : Array Oper} {o : Oper} {a : Act} {w : World} {K : Act → World → Prop} {Q : Exit → Act → World → Prop} {E : Prop} (hgd : o.guard = none) (x : Operand) (hop : o.op = Op.extract x 1) {u v : Value}
    (hx : a.eval x = .tuple #[u, v]) (h : K (a.put o.dst v) w) : if Region.wanted o (yielded ops a.tmps) = true then Oper.wp Tryd.prog o a w K Q else E := by
  have hw : Region.wanted o (yielded ops a.tmps) = true := by simp [Region.wanted, hgd]
  rw [if_pos hw]
  unfold Oper.wp
  simp [execOp, hop, hx, Result.andThen]
  exact h
theorem step_entry2 {ops : Array Oper} {o : Oper} {a : Act} {w : World} {K : Act → World → Prop} {Q : Exit → Act → World → Prop} {E : Prop} (hgd : o.guard = none) (m x : Operand) (hop : o.op = Op.mapEntry 59 m x)
    {b n : Nat} {D : DataW Unit} (hm : a.eval m = .map (some b)) (hown : OwnsA w b n D) (hn : n < maxLen) {key : Value} {kl : Lit} (hx : a.eval x = key) (hkey : keyOf Tryd.prog 58 key = some kl) {y : Int} (hy : D.atKey kl (.lit (.int .i64 0)) = .lit (.int .i64 y))
    (h : ∀ (st : Nat) (w1 : World), OwnsA w1 b (n + 1) (D.put kl (.lit (.int .i64 y))) → w.grownBy w1 (some b) → Stores Tryd.prog 58 3 59 b n D kl w1 st → K (a.put o.dst (.tuple #[.int .i64 y, goInt st])) w1) :
    if Region.wanted o (yielded ops a.tmps) = true then Oper.wp Tryd.prog o a w K Q else E := by
  have hw : Region.wanted o (yielded ops a.tmps) = true := by simp [Region.wanted, hgd]
  rw [if_pos hw]
  obtain ⟨st, w1, hrun, r1, r2, r3⟩ := entry_same klaw Tryd.underlying59 Tryd.underlying3 mzeroA hown hn hkey hy
  unfold Oper.wp
  simp [execOp, hop, hm, hx, hrun, Result.andThen]
  exact h st w1 r1 r2 r3
theorem run_load5 {w' : World} {g : Nat} {f : Nat → Bool} (h : Box w' g 58 (bitsF f)) : (Instr.loadAt 58 (.pointer (some ⟨g, 0, none⟩))).run Tryd.prog w' = .ok (.agg #[.bool (f 0), .bool (f 1), .bool (f 2), .bool (f 3), .bool (f 4)]) w' := by
  obtain ⟨c0, c1, c2, c3, c4⟩ := box5 h
  simp [Instr.loadAt, go_sem, c0, c1, c2, c3, c4]

set_option linter.unusedSimpArgs false
set_option maxHeartbeats 4000000 in
set_option maxRecDepth 100000 in
theorem region13_w {Q : Exit → Act → World → Prop} (hQ : ∀ c a d v w, Q (.panic c) (a.put d v) w → Q (.panic c) a w) {a : Act} {W0 : World} {gw nb n c y : Nat} {D : DataW Unit} {kl : Lit} {f : Nat → Bool}
    (hsz : a.tmps.size = 62) (e9 : a.eval (.tmp 9) = .map (some nb)) (e11 : a.eval (.tmp 11) = .int .i64 (c : Int)) (e13 : a.eval (.tmp 13) = .pointer (some ⟨gw, 0, none⟩)) (bw : Box W0 gw 58 (bitsF f)) (hne : gw ≠ nb)
    (hkey : keyOf Tryd.prog 58 (.agg #[.bool (f 0), .bool (f 1), .bool (f 2), .bool (f 3), .bool (f 4)]) = some kl) (hown : OwnsA W0 nb n D) (hD : IsMap D) (hn : n < maxLen) (hy : D.atKey kl (.lit (.int .i64 0)) = .lit (.int .i64 (y : Int))) (hsum : IntKind.i64.wrap ((y : Int) + (c : Int)) = (y : Int) + (c : Int)) (hsm : y + c ≤ 65536)
    (H : ∀ (st : Nat) (w' : World), OwnsA w' nb (n + 1) (D.put kl (.lit (.int .i64 ((y : Int) + (c : Int))))) → W0.grownBy w' (some nb) →
      Q .normal (((((((a.put (some 49) (.map (some nb))).put (some 50) (.agg #[.bool (f 0), .bool (f 1), .bool (f 2), .bool (f 3), .bool (f 4)])).put (some 52) (.int .i64 (c : Int))).put (some 51) (.int .i64 (y : Int))).put (some 53) (.int .i64 ((y : Int) + (c : Int)))).put (some 54) (.tuple #[.int .i64 (y : Int), goInt st])).put (some 55) (goInt st)) w') :
    (Code.region 13 ops13 true).wp Tryd.prog Q a W0 := by
  obtain ⟨b0, hb0⟩ : ∃ b0, (((a.put (some 49) (.map (some nb))).put (some 50) (.agg #[.bool (f 0), .bool (f 1), .bool (f 2), .bool (f 3), .bool (f 4)])).put (some 52) (.int .i64 (c : Int))) = b0 := ⟨_, rfl⟩
  have hbs : b0.tmps.size = 62 := by rw [← hb0]; simp [act_size, hsz]
  have b49 : b0.eval (.tmp 49) = .map (some nb) := by rw [← hb0]; simp [act_ne, act_self, act_size, hsz]
  have b50 : b0.eval (.tmp 50) = (.agg #[.bool (f 0), .bool (f 1), .bool (f 2), .bool (f 3), .bool (f 4)]) := by rw [← hb0]; simp [act_ne, act_self, act_size, hsz]
  have b52 : b0.eval (.tmp 52) = .int .i64 (c : Int) := by rw [← hb0]; simp [act_ne, act_self, act_size, hsz]
  have hy2 : (D.put kl (.lit (.int .i64 (y : Int)))).atKey kl (.lit (.int .i64 0)) = .lit (.int .i64 (y : Int)) := atKey_put_same hD (mlawA.key hkey) _ _
  have hsumv : plainElem (H := Unit) Tryd.prog 3 (.int .i64 ((y : Int) + (c : Int))) = some (.lit (.int .i64 ((y : Int) + (c : Int))), []) := plainElem_int Tryd.underlying3 (by
    have hmin : IntKind.i64.min = -9223372036854775808 := by decide
    simp [Lit.wf]
    rw [hmin]
    omega)
  rw [hb0] at H
  have s22 : ∀ (st : Nat) (w' : World) (own : OwnsA w' nb (n + 1) (D.put kl (.lit (.int .i64 (y : Int))))) (hS : Stores Tryd.prog 58 3 59 nb n D kl w' st) (bx : Box w' gw 58 (bitsF f)) (hg : W0.grownBy w' (some nb)), wpAnyH Tryd.prog .any ops13 Q (fun w' => Box w' gw 58 (bitsF f)) 1 #[true, true, true, true, true, true, true, false] ((((b0.put (some 51) (.int .i64 (y : Int))).put (some 53) (.int .i64 ((y : Int) + (c : Int)))).put (some 54) (.tuple #[.int .i64 (y : Int), goInt st])).put (some 55) (goInt st)) w' := by
    intro st w' own hS bx hg
    refine wpAnyH_ready (rs := [7]) (by kernel_rfl) (by simp) ?_
    refine AllReadyH.cons (o := { dst := none, op := Op.entryStore 59 (Operand.tmp 49) (Operand.tmp 55) (Operand.tmp 53), type := 0, pos := "c5_domino.go:104", after := #[{ on := 0, ground := Ground.data }, { on := 6, ground := Ground.data }, { on := 4, ground := Ground.data }, { on := 5, ground := Ground.chain }, { on := 0, ground := Ground.phase }, { on := 1, ground := Ground.phase }, { on := 2, ground := Ground.phase }, { on := 3, ground := Ground.phase }, { on := 4, ground := Ground.phase }, { on := 5, ground := Ground.phase }, { on := 6, ground := Ground.phase }], guard := none }) rfl (fun K hK => step_estore rfl (.tmp 49) (.tmp 55) (.tmp 53) 59 rfl 58 3 nb n st D kl w' hS rfl ((act_ne _ (by decide) _).trans ((act_ne _ (by decide) _).trans ((act_ne _ (by decide) _).trans ((act_ne _ (by decide) _).trans b49)))) (act_self (by simp [act_size, hbs]) _) _ ((act_ne _ (by decide) _).trans ((act_ne _ (by decide) _).trans (act_self (by simp [act_size, hbs]) _))) _ _ hsumv (fun w3 own3 hg3 => hK.out _ _ (bx.grownN hg3 hne) (fun _ => ?_))) AllReadyH.nil
    refine wpAnyH_done (by kernel_rfl) ?_ _
    exact H st w3 own3 (grown_then hg hg3)
  have s21 : ∀ (st : Nat) (w' : World) (own : OwnsA w' nb (n + 1) (D.put kl (.lit (.int .i64 (y : Int))))) (hS : Stores Tryd.prog 58 3 59 nb n D kl w' st) (bx : Box w' gw 58 (bitsF f)) (hg : W0.grownBy w' (some nb)), wpAnyH Tryd.prog .any ops13 Q (fun w' => Box w' gw 58 (bitsF f)) 2 #[true, true, true, true, true, true, false, false] (((b0.put (some 51) (.int .i64 (y : Int))).put (some 53) (.int .i64 ((y : Int) + (c : Int)))).put (some 54) (.tuple #[.int .i64 (y : Int), goInt st])) w' := by
    intro st w' own hS bx hg
    refine wpAnyH_ready (rs := [6]) (by kernel_rfl) (by simp) ?_
    refine AllReadyH.cons (o := { dst := some 55, op := Op.extract (Operand.tmp 54) 1, type := 3, pos := "c5_domino.go:104", after := #[{ on := 5, ground := Ground.data }], guard := none }) rfl (fun K hK => step_extract rfl (.tmp 54) rfl (act_self (by simp [act_size, hbs]) _) (hK.out _ _ bx (fun _ => any_eq (by rfl) (rfl) (s22 st w' own hS bx hg)))) ?_
    exact AllReadyH.nil
  have s20 : ∀ (w' : World) (own : OwnsA w' nb n D) (bx : Box w' gw 58 (bitsF f)) (hg : W0.grownBy w' (some nb)), wpAnyH Tryd.prog .any ops13 Q (fun w' => Box w' gw 58 (bitsF f)) 3 #[true, true, true, true, true, false, false, false] ((b0.put (some 51) (.int .i64 (y : Int))).put (some 53) (.int .i64 ((y : Int) + (c : Int)))) w' := by
    intro w' own bx hg
    refine wpAnyH_ready (rs := [5]) (by kernel_rfl) (by simp) ?_
    refine AllReadyH.cons (o := { dst := some 54, op := Op.mapEntry 59 (Operand.tmp 49) (Operand.tmp 50), type := 0, pos := "c5_domino.go:104", after := #[{ on := 0, ground := Ground.data }, { on := 1, ground := Ground.data }, { on := 0, ground := Ground.phase }, { on := 1, ground := Ground.phase }, { on := 2, ground := Ground.textOnly Departure.mapOpAssignEntry }, { on := 3, ground := Ground.phase }, { on := 4, ground := Ground.textOnly Departure.mapOpAssignEntry }], guard := none }) rfl (fun K hK => step_entry2 rfl (.tmp 49) (.tmp 50) rfl ((act_ne _ (by decide) _).trans ((act_ne _ (by decide) _).trans b49)) own hn ((act_ne _ (by decide) _).trans ((act_ne _ (by decide) _).trans b50)) hkey hy (fun st w1 own1 hg1 hS1 => hK.out _ _ (bx.grownN hg1 hne) (fun _ => any_eq (by rfl) (rfl) (s21 st w1 own1 hS1 (bx.grownN hg1 hne) (grown_then hg hg1))))) ?_
    exact AllReadyH.nil
  have s12 : ∀ (st : Nat) (w' : World) (own : OwnsA w' nb (n + 1) (D.put kl (.lit (.int .i64 (y : Int))))) (hS : Stores Tryd.prog 58 3 59 nb n D kl w' st) (bx : Box w' gw 58 (bitsF f)) (hg : W0.grownBy w' (some nb)), wpAnyH Tryd.prog .any ops13 Q (fun w' => Box w' gw 58 (bitsF f)) 2 #[true, true, true, true, false, true, true, false] (((b0.put (some 51) (.int .i64 (y : Int))).put (some 54) (.tuple #[.int .i64 (y : Int), goInt st])).put (some 55) (goInt st)) w' := by
    intro st w' own hS bx hg
    refine wpAnyH_ready (rs := [4]) (by kernel_rfl) (by simp) ?_
    refine AllReadyH.cons (o := { dst := some 53, op := Op.binOp BinOp.add 3 (Operand.tmp 51) (Operand.tmp 52) 3, type := 3, pos := "c5_domino.go:104", after := #[{ on := 2, ground := Ground.data }, { on := 3, ground := Ground.data }], guard := none }) rfl (fun K hK => step_add rfl (.tmp 51) (.tmp 52) rfl ((act_ne _ (by decide) _).trans ((act_ne _ (by decide) _).trans (act_self (by simp [act_size, hbs]) _))) ((act_ne _ (by decide) _).trans ((act_ne _ (by decide) _).trans ((act_ne _ (by decide) _).trans b52))) hsum (hK.out _ _ bx (fun _ => any_eq (by rfl) (by rw [act_swap _ 55 53 _ _ (by decide), act_swap _ 54 53 _ _ (by decide)]) (s22 st w' own hS bx hg)))) ?_
    exact AllReadyH.nil
  have s11 : ∀ (st : Nat) (w' : World) (own : OwnsA w' nb (n + 1) (D.put kl (.lit (.int .i64 (y : Int))))) (hS : Stores Tryd.prog 58 3 59 nb n D kl w' st) (bx : Box w' gw 58 (bitsF f)) (hg : W0.grownBy w' (some nb)), wpAnyH Tryd.prog .any ops13 Q (fun w' => Box w' gw 58 (bitsF f)) 3 #[true, true, true, true, false, true, false, false] ((b0.put (some 51) (.int .i64 (y : Int))).put (some 54) (.tuple #[.int .i64 (y : Int), goInt st])) w' := by
    intro st w' own hS bx hg
    refine wpAnyH_ready (rs := [4, 6]) (by kernel_rfl) (by simp) ?_
    refine AllReadyH.cons (o := { dst := some 53, op := Op.binOp BinOp.add 3 (Operand.tmp 51) (Operand.tmp 52) 3, type := 3, pos := "c5_domino.go:104", after := #[{ on := 2, ground := Ground.data }, { on := 3, ground := Ground.data }], guard := none }) rfl (fun K hK => step_add rfl (.tmp 51) (.tmp 52) rfl ((act_ne _ (by decide) _).trans (act_self (by simp [act_size, hbs]) _)) ((act_ne _ (by decide) _).trans ((act_ne _ (by decide) _).trans b52)) hsum (hK.out _ _ bx (fun _ => any_eq (by rfl) (by rw [act_swap _ 54 53 _ _ (by decide)]) (s21 st w' own hS bx hg)))) ?_
    refine AllReadyH.cons (o := { dst := some 55, op := Op.extract (Operand.tmp 54) 1, type := 3, pos := "c5_domino.go:104", after := #[{ on := 5, ground := Ground.data }], guard := none }) rfl (fun K hK => step_extract rfl (.tmp 54) rfl (act_self (by simp [act_size, hbs]) _) (hK.out _ _ bx (fun _ => any_eq (by rfl) (rfl) (s12 st w' own hS bx hg)))) ?_
    exact AllReadyH.nil
  have s10 : ∀ (w' : World) (own : OwnsA w' nb n D) (bx : Box w' gw 58 (bitsF f)) (hg : W0.grownBy w' (some nb)), wpAnyH Tryd.prog .any ops13 Q (fun w' => Box w' gw 58 (bitsF f)) 4 #[true, true, true, true, false, false, false, false] (b0.put (some 51) (.int .i64 (y : Int))) w' := by
    intro w' own bx hg
    refine wpAnyH_ready (rs := [4, 5]) (by kernel_rfl) (by simp) ?_
    refine AllReadyH.cons (o := { dst := some 53, op := Op.binOp BinOp.add 3 (Operand.tmp 51) (Operand.tmp 52) 3, type := 3, pos := "c5_domino.go:104", after := #[{ on := 2, ground := Ground.data }, { on := 3, ground := Ground.data }], guard := none }) rfl (fun K hK => step_add rfl (.tmp 51) (.tmp 52) rfl (act_self (by simp [act_size, hbs]) _) ((act_ne _ (by decide) _).trans b52) hsum (hK.out _ _ bx (fun _ => any_eq (by rfl) (rfl) (s20 w' own bx hg)))) ?_
    refine AllReadyH.cons (o := { dst := some 54, op := Op.mapEntry 59 (Operand.tmp 49) (Operand.tmp 50), type := 0, pos := "c5_domino.go:104", after := #[{ on := 0, ground := Ground.data }, { on := 1, ground := Ground.data }, { on := 0, ground := Ground.phase }, { on := 1, ground := Ground.phase }, { on := 2, ground := Ground.textOnly Departure.mapOpAssignEntry }, { on := 3, ground := Ground.phase }, { on := 4, ground := Ground.textOnly Departure.mapOpAssignEntry }], guard := none }) rfl (fun K hK => step_entry2 rfl (.tmp 49) (.tmp 50) rfl ((act_ne _ (by decide) _).trans b49) own hn ((act_ne _ (by decide) _).trans b50) hkey hy (fun st w1 own1 hg1 hS1 => hK.out _ _ (bx.grownN hg1 hne) (fun _ => any_eq (by rfl) (rfl) (s11 st w1 own1 hS1 (bx.grownN hg1 hne) (grown_then hg hg1))))) ?_
    exact AllReadyH.nil
  have s02 : ∀ (st : Nat) (w' : World) (own : OwnsA w' nb (n + 1) (D.put kl (.lit (.int .i64 (y : Int))))) (hS : Stores Tryd.prog 58 3 59 nb n D kl w' st) (bx : Box w' gw 58 (bitsF f)) (hg : W0.grownBy w' (some nb)), wpAnyH Tryd.prog .any ops13 Q (fun w' => Box w' gw 58 (bitsF f)) 3 #[true, true, false, true, false, true, true, false] ((b0.put (some 54) (.tuple #[.int .i64 (y : Int), goInt st])).put (some 55) (goInt st)) w' := by
    intro st w' own hS bx hg
    refine wpAnyH_ready (rs := [2]) (by kernel_rfl) (by simp) ?_
    refine AllReadyH.cons (o := { dst := some 51, op := Op.lookup 59 (Operand.tmp 49) (Operand.tmp 50) false, type := 3, pos := "c5_domino.go:104", after := #[{ on := 0, ground := Ground.data }, { on := 1, ground := Ground.data }], guard := none }) rfl (fun K hK => step_lookup rfl (.tmp 49) (.tmp 50) 59 rfl 58 3 .i64 mlawA Tryd.underlying59 Tryd.underlying3 (mzeroA _) nb _ _ ((act_ne _ (by decide) _).trans ((act_ne _ (by decide) _).trans b49)) own _ kl ((act_ne _ (by decide) _).trans ((act_ne _ (by decide) _).trans b50)) hkey _ hy2 (hK.out _ _ bx (fun _ => any_eq (by rfl) (by rw [act_swap _ 55 51 _ _ (by decide), act_swap _ 54 51 _ _ (by decide)]) (s12 st w' own hS bx hg)))) ?_
    exact AllReadyH.nil
  have s01 : ∀ (st : Nat) (w' : World) (own : OwnsA w' nb (n + 1) (D.put kl (.lit (.int .i64 (y : Int))))) (hS : Stores Tryd.prog 58 3 59 nb n D kl w' st) (bx : Box w' gw 58 (bitsF f)) (hg : W0.grownBy w' (some nb)), wpAnyH Tryd.prog .any ops13 Q (fun w' => Box w' gw 58 (bitsF f)) 4 #[true, true, false, true, false, true, false, false] (b0.put (some 54) (.tuple #[.int .i64 (y : Int), goInt st])) w' := by
    intro st w' own hS bx hg
    refine wpAnyH_ready (rs := [2, 6]) (by kernel_rfl) (by simp) ?_
    refine AllReadyH.cons (o := { dst := some 51, op := Op.lookup 59 (Operand.tmp 49) (Operand.tmp 50) false, type := 3, pos := "c5_domino.go:104", after := #[{ on := 0, ground := Ground.data }, { on := 1, ground := Ground.data }], guard := none }) rfl (fun K hK => step_lookup rfl (.tmp 49) (.tmp 50) 59 rfl 58 3 .i64 mlawA Tryd.underlying59 Tryd.underlying3 (mzeroA _) nb _ _ ((act_ne _ (by decide) _).trans b49) own _ kl ((act_ne _ (by decide) _).trans b50) hkey _ hy2 (hK.out _ _ bx (fun _ => any_eq (by rfl) (by rw [act_swap _ 54 51 _ _ (by decide)]) (s11 st w' own hS bx hg)))) ?_
    refine AllReadyH.cons (o := { dst := some 55, op := Op.extract (Operand.tmp 54) 1, type := 3, pos := "c5_domino.go:104", after := #[{ on := 5, ground := Ground.data }], guard := none }) rfl (fun K hK => step_extract rfl (.tmp 54) rfl (act_self (by simp [act_size, hbs]) _) (hK.out _ _ bx (fun _ => any_eq (by rfl) (rfl) (s02 st w' own hS bx hg)))) ?_
    exact AllReadyH.nil
  have s00 : ∀ (w' : World) (own : OwnsA w' nb n D) (bx : Box w' gw 58 (bitsF f)) (hg : W0.grownBy w' (some nb)), wpAnyH Tryd.prog .any ops13 Q (fun w' => Box w' gw 58 (bitsF f)) 5 #[true, true, false, true, false, false, false, false] b0 w' := by
    intro w' own bx hg
    refine wpAnyH_ready (rs := [2, 5]) (by kernel_rfl) (by simp) ?_
    refine AllReadyH.cons (o := { dst := some 51, op := Op.lookup 59 (Operand.tmp 49) (Operand.tmp 50) false, type := 3, pos := "c5_domino.go:104", after := #[{ on := 0, ground := Ground.data }, { on := 1, ground := Ground.data }], guard := none }) rfl (fun K hK => step_lookup rfl (.tmp 49) (.tmp 50) 59 rfl 58 3 .i64 mlawA Tryd.underlying59 Tryd.underlying3 (mzeroA _) nb _ _ b49 own _ kl b50 hkey _ hy (hK.out _ _ bx (fun _ => any_eq (by rfl) (rfl) (s10 w' own bx hg)))) ?_
    refine AllReadyH.cons (o := { dst := some 54, op := Op.mapEntry 59 (Operand.tmp 49) (Operand.tmp 50), type := 0, pos := "c5_domino.go:104", after := #[{ on := 0, ground := Ground.data }, { on := 1, ground := Ground.data }, { on := 0, ground := Ground.phase }, { on := 1, ground := Ground.phase }, { on := 2, ground := Ground.textOnly Departure.mapOpAssignEntry }, { on := 3, ground := Ground.phase }, { on := 4, ground := Ground.textOnly Departure.mapOpAssignEntry }], guard := none }) rfl (fun K hK => step_entry2 rfl (.tmp 49) (.tmp 50) rfl b49 own hn b50 hkey hy (fun st w1 own1 hg1 hS1 => hK.out _ _ (bx.grownN hg1 hne) (fun _ => any_eq (by rfl) (rfl) (s01 st w1 own1 hS1 (bx.grownN hg1 hne) (grown_then hg hg1))))) ?_
    exact AllReadyH.nil
  refine wp_region_held_drew (S := (fun w' => Box w' gw 58 (bitsF f))) (by kernel_rfl) bw (fun hHeld => ?_)
  refine wpAnyH_take (i := 0) (oi := { dst := some 49, op := Op.move (Operand.tmp 9), type := 59, pos := "c5_domino.go:104", after := #[], guard := none }) (v := .map (some nb)) rfl (by kernel_rfl) (by kernel_rfl) (by kernel_rfl) (fun c a w h => hQ c a _ _ w h) (Or.inl ⟨by simp [Region.wanted], fun w' hS => ?_⟩) hHeld ?_
  · simp [execOp, e9]
  refine wpAnyH_take (i := 1) (oi := { dst := some 50, op := Op.load 58 (Operand.tmp 13), type := 58, pos := "c5_domino.go:104", after := #[], guard := none }) (v := (.agg #[.bool (f 0), .bool (f 1), .bool (f 2), .bool (f 3), .bool (f 4)])) rfl (by kernel_rfl) (by kernel_rfl) (by kernel_rfl) (fun c a w h => hQ c a _ _ w h) (Or.inl ⟨by simp [Region.wanted], fun w' hS => ?_⟩) hHeld ?_
  · have hev : (a.put (some 49) (.map (some nb))).eval (.tmp 13) = .pointer (some ⟨gw, 0, none⟩) := (act_ne _ (by decide) _).trans e13
    have hld := run_load5 hS
    simp [execOp, hev, hld, Result.andThen]
  refine wpAnyH_take (i := 3) (oi := { dst := some 52, op := Op.move (Operand.tmp 11), type := 3, pos := "c5_domino.go:104", after := #[], guard := none }) (v := .int .i64 (c : Int)) rfl (by kernel_rfl) (by kernel_rfl) (by kernel_rfl) (fun c a w h => hQ c a _ _ w h) (Or.inl ⟨by simp [Region.wanted], fun w' hS => ?_⟩) hHeld ?_
  · have hev : ((a.put (some 49) (.map (some nb))).put (some 50) (.agg #[.bool (f 0), .bool (f 1), .bool (f 2), .bool (f 3), .bool (f 4)])).eval (.tmp 11) = .int .i64 (c : Int) := (act_ne _ (by decide) _).trans ((act_ne _ (by decide) _).trans e11)
    simp [execOp, hev]
  exact any_eq (by rfl) hb0 (s00 W0.drew (show OwnsA W0.drew nb n D from hown) (show Box W0.drew gw 58 (bitsF f) from bw) ⟨rfl, rfl, rfl, Nat.le_refl _, fun _ _ _ => rfl⟩)
end Go.Proofs.YtnikgnicjbcbmaaDoor
