/-
  PDeskG, PDeskH, PDeskI in one text.
-/
import Derived.Test.YtmfdlijkpdgimaaGreatDoorPDeskN
import Derived.Test.YtmfdlijkpdgimaaGreatDoorMovesM
import Derived.BigRegion
import Derived.Test.YtmfdlijkpdgimaaGreatDoorDeskE
import Derived.Lib.AtoiErrMem
/-
  The desk of the program: which command a word is; which numbers the words behind it are.
-/
namespace Go.Proofs.YtmfdlijkpdgimaaGreatDoor
open Go.RowKit
set_option linter.unusedVariables false

/-- The function value of a word's command, in a world. -/
def Cmd (k : ByteArray) (W : World) (v : Value) : Prop :=
  (k.toList = kBoard ∧ v = .func (.func 57) #[] #[]) ∨ (k.toList = kTile ∧ v = .func (.func 58) #[] #[]) ∨
  (k.toList = kDark ∧ ∃ b, v = .func (.func 79) #[] #[.pointer (some ⟨b, 0, none⟩)] ∧ W.cell? ⟨b, 0, none⟩ = some (.func (.func 60) #[] #[])) ∨
  (k.toList = kPegs ∧ ∃ b, v = .func (.func 79) #[] #[.pointer (some ⟨b, 0, none⟩)] ∧ W.cell? ⟨b, 0, none⟩ = some (.func (.func 61) #[] #[])) ∨
  (k.toList = kFold ∧ v = .func (.func 62) #[] #[]) ∨
  (pieceB k.toList = true ∧ (k.toList ≠ kBoard ∧ k.toList ≠ kTile ∧ k.toList ≠ kDark ∧ k.toList ≠ kPegs ∧ k.toList ≠ kFold) ∧ ∃ b, v = .func (.func 91) #[] #[.pointer (some ⟨b, 0, none⟩)] ∧ W.cell? ⟨b, 0, none⟩ = some (.string k))
theorem Cmd.below {k : ByteArray} {W W' : World} {v : Value} (h : Cmd k W v) (hb : Below W.heap.size W W') : Cmd k W' v := by
  unfold Cmd at h ⊢
  rcases h with h | h | ⟨h, b, hv, hc⟩ | ⟨h, b, hv, hc⟩ | h | ⟨h, hn, b, hv, hc⟩
  · exact .inl h
  · exact .inr (.inl h)
  · exact .inr (.inr (.inl ⟨h, b, hv, (hb.cell (cell_lt hc)).trans hc⟩))
  · exact .inr (.inr (.inr (.inl ⟨h, b, hv, (hb.cell (cell_lt hc)).trans hc⟩)))
  · exact .inr (.inr (.inr (.inr (.inl h))))
  · exact .inr (.inr (.inr (.inr (.inr ⟨h, hn, b, hv, (hb.cell (cell_lt hc)).trans hc⟩))))
theorem kind_piece {l : List UInt8} (h : pieceB l = false) : (kindL l).isSome = false := by
  unfold pieceB at h
  simp only [Bool.or_eq_false_iff, beq_eq_false_iff_ne] at h
  obtain ⟨⟨⟨⟨⟨h1, h2⟩, h3⟩, h4⟩, h5⟩, h6⟩ := h
  unfold kindL
  simp [h1, h2, h3, h4, h5, h6]
theorem piece_kindG {l : List UInt8} (h : pieceB l = true) : ∃ p, kindL l = some p := by
  cases hk : kindL l with
  | some p => exact ⟨p, rfl⟩
  | none =>
    exfalso
    unfold pieceB at h
    simp only [Bool.or_eq_true, beq_iff_eq] at h
    rcases h with ((((h | h) | h) | h) | h) | h <;> subst h <;> exact absurd hk (by decide)
theorem fewest_c (F : Nat) (w : World) : Calls Tryz.prog 59 #[.func (.func F) #[] #[]] w fun e w' => e = .returned (.func (.func 79) #[] #[.pointer (some ⟨w.heap.size, 0, none⟩)]) ∧ w' = w.alloc (.cells #[.func (.func F) #[] #[]] 69) := by
  go_enter Tryz.func59, Tryz.ntmps59
  go_wp2_with fail
  go_ret
  exact ⟨rfl, rfl⟩
theorem reachA_c (k : ByteArray) (w : World) : Calls Tryz.prog 64 #[.string k] w fun e w' => e = .returned (.func (.func 91) #[] #[.pointer (some ⟨w.heap.size, 0, none⟩)]) ∧ w' = w.alloc (.cells #[.string k] 9) := by
  go_enter Tryz.func64, Tryz.ntmps64
  go_wp2_with fail
  go_ret
  exact ⟨rfl, rfl⟩
/-- What commandOf hands back of a word of the desk. -/
def Commands (k : ByteArray) (w : World) (e : Ending) (w' : World) : Prop := ∃ v, e = .returned (.tuple #[.agg #[.int .i64 (needN k.toList : Int), v], .nilIface]) ∧ Cmd k w' v ∧ Below w.heap.size w w'
set_option maxHeartbeats 2000000 in
theorem commandOf_board (k : ByteArray) (w : World) (hk : k.toList = kBoard) : Calls Tryz.prog 40 #[.string k] w (Commands k w) := by
  have q0 : (k.toList == [98, 111, 97, 114, 100]) = true := by rw [hk]; decide
  have HN := hide (fun w5 => numbersBehind_c k w5)
  have HC : ∀ (W : World) (v : Value), Hid (v = .func (.func 57) #[] #[] → Cmd k W v) := fun W v h => .inl ⟨hk, h⟩
  unfold Commands
  generalize needN k.toList = m at *
  clear hk
  have hs0 := fun (a : Addr) (w : World) => run_store Tryz.prog w a .nilFunc .plain rfl
  have hs1 := fun (a : Addr) (c : Array Value) (w : World) => run_store Tryz.prog w a (.func (.func 57) #[] c) .plain rfl
  go_enter Tryz.func40, Tryz.ntmps40
  go_wp2_with fail
  refine (HN.out _).mono ?_
  rintro e w5 ⟨rfl, rfl⟩
  go_wp2_with fail
  go_returns
  refine ⟨_, rfl, (HC _ _).out rfl, ?_⟩
  repeat' first | exact Below.refl _ _ | (refine Below.setCell ?_ ?_ _) | (refine Below.alloc ?_ ?_ _)
  all_goals first | (simp; done) | (simp; omega)
set_option maxHeartbeats 2000000 in
theorem commandOf_tile (k : ByteArray) (w : World) (hk : k.toList = kTile) : Calls Tryz.prog 40 #[.string k] w (Commands k w) := by
  have q0 : (k.toList == [98, 111, 97, 114, 100]) = false := by rw [hk]; decide
  have q1 : (k.toList == [116, 105, 108, 101]) = true := by rw [hk]; decide
  have HN := hide (fun w5 => numbersBehind_c k w5)
  have HC : ∀ (W : World) (v : Value), Hid (v = .func (.func 58) #[] #[] → Cmd k W v) := fun W v h => .inr (.inl ⟨hk, h⟩)
  unfold Commands
  generalize needN k.toList = m at *
  clear hk
  have hs0 := fun (a : Addr) (w : World) => run_store Tryz.prog w a .nilFunc .plain rfl
  have hs1 := fun (a : Addr) (c : Array Value) (w : World) => run_store Tryz.prog w a (.func (.func 58) #[] c) .plain rfl
  go_enter Tryz.func40, Tryz.ntmps40
  go_wp2_with fail
  refine (HN.out _).mono ?_
  rintro e w5 ⟨rfl, rfl⟩
  go_wp2_with fail
  go_returns
  refine ⟨_, rfl, (HC _ _).out rfl, ?_⟩
  repeat' first | exact Below.refl _ _ | (refine Below.setCell ?_ ?_ _) | (refine Below.alloc ?_ ?_ _)
  all_goals first | (simp; done) | (simp; omega)
set_option maxHeartbeats 2000000 in
theorem commandOf_dark (k : ByteArray) (w : World) (hk : k.toList = kDark) : Calls Tryz.prog 40 #[.string k] w (Commands k w) := by
  have q0 : (k.toList == [98, 111, 97, 114, 100]) = false := by rw [hk]; decide
  have q1 : (k.toList == [116, 105, 108, 101]) = false := by rw [hk]; decide
  have q2 : (k.toList == [100, 97, 114, 107]) = true := by rw [hk]; decide
  have HN := hide (fun w5 => numbersBehind_c k w5)
  have HF := hide (fun w5 => fewest_c 60 w5)
  have HC : ∀ (W : World) (v : Value), Hid ((∃ b, v = .func (.func 79) #[] #[.pointer (some ⟨b, 0, none⟩)] ∧ W.cell? ⟨b, 0, none⟩ = some (.func (.func 60) #[] #[])) → Cmd k W v) := fun W v h => .inr (.inr (.inl ⟨hk, h⟩))
  unfold Commands
  generalize needN k.toList = m at *
  clear hk
  have hs0 := fun (a : Addr) (w : World) => run_store Tryz.prog w a .nilFunc .plain rfl
  have hs1 := fun (a : Addr) (c : Array Value) (w : World) => run_store Tryz.prog w a (.func (.func 79) #[] c) .plain rfl
  go_enter Tryz.func40, Tryz.ntmps40
  go_wp2_with fail
  refine (HN.out _).mono ?_
  rintro e w5 ⟨rfl, rfl⟩
  go_wp2_with fail
  refine (HF.out _).mono ?_
  rintro e w6 ⟨rfl, rfl⟩
  go_wp2_with fail
  go_returns
  refine ⟨_, rfl, (HC _ _).out ⟨_, rfl, ?_⟩, ?_⟩
  · rw [World.cell?_alloc_at _ _ _ _ (by simp)]; rfl
  repeat' first | exact Below.refl _ _ | (refine Below.setCell ?_ ?_ _) | (refine Below.alloc ?_ ?_ _)
  all_goals first | (simp; done) | (simp; omega)
set_option maxHeartbeats 2000000 in
theorem commandOf_pegs (k : ByteArray) (w : World) (hk : k.toList = kPegs) : Calls Tryz.prog 40 #[.string k] w (Commands k w) := by
  have q0 : (k.toList == [98, 111, 97, 114, 100]) = false := by rw [hk]; decide
  have q1 : (k.toList == [116, 105, 108, 101]) = false := by rw [hk]; decide
  have q2 : (k.toList == [100, 97, 114, 107]) = false := by rw [hk]; decide
  have q3 : (k.toList == [112, 101, 103, 115]) = true := by rw [hk]; decide
  have HN := hide (fun w5 => numbersBehind_c k w5)
  have HF := hide (fun w5 => fewest_c 61 w5)
  have HC : ∀ (W : World) (v : Value), Hid ((∃ b, v = .func (.func 79) #[] #[.pointer (some ⟨b, 0, none⟩)] ∧ W.cell? ⟨b, 0, none⟩ = some (.func (.func 61) #[] #[])) → Cmd k W v) := fun W v h => .inr (.inr (.inr (.inl ⟨hk, h⟩)))
  unfold Commands
  generalize needN k.toList = m at *
  clear hk
  have hs0 := fun (a : Addr) (w : World) => run_store Tryz.prog w a .nilFunc .plain rfl
  have hs1 := fun (a : Addr) (c : Array Value) (w : World) => run_store Tryz.prog w a (.func (.func 79) #[] c) .plain rfl
  go_enter Tryz.func40, Tryz.ntmps40
  go_wp2_with fail
  refine (HN.out _).mono ?_
  rintro e w5 ⟨rfl, rfl⟩
  go_wp2_with fail
  refine (HF.out _).mono ?_
  rintro e w6 ⟨rfl, rfl⟩
  go_wp2_with fail
  go_returns
  refine ⟨_, rfl, (HC _ _).out ⟨_, rfl, ?_⟩, ?_⟩
  · rw [World.cell?_alloc_at _ _ _ _ (by simp)]; rfl
  repeat' first | exact Below.refl _ _ | (refine Below.setCell ?_ ?_ _) | (refine Below.alloc ?_ ?_ _)
  all_goals first | (simp; done) | (simp; omega)
set_option maxHeartbeats 2000000 in
theorem commandOf_fold (k : ByteArray) (w : World) (hk : k.toList = kFold) : Calls Tryz.prog 40 #[.string k] w (Commands k w) := by
  have q0 : (k.toList == [98, 111, 97, 114, 100]) = false := by rw [hk]; decide
  have q1 : (k.toList == [116, 105, 108, 101]) = false := by rw [hk]; decide
  have q2 : (k.toList == [100, 97, 114, 107]) = false := by rw [hk]; decide
  have q3 : (k.toList == [112, 101, 103, 115]) = false := by rw [hk]; decide
  have q4 : (k.toList == [102, 111, 108, 100]) = true := by rw [hk]; decide
  have HN := hide (fun w5 => numbersBehind_c k w5)
  have HC : ∀ (W : World) (v : Value), Hid (v = .func (.func 62) #[] #[] → Cmd k W v) := fun W v h => .inr (.inr (.inr (.inr (.inl ⟨hk, h⟩))))
  unfold Commands
  generalize needN k.toList = m at *
  clear hk
  have hs0 := fun (a : Addr) (w : World) => run_store Tryz.prog w a .nilFunc .plain rfl
  have hs1 := fun (a : Addr) (c : Array Value) (w : World) => run_store Tryz.prog w a (.func (.func 62) #[] c) .plain rfl
  go_enter Tryz.func40, Tryz.ntmps40
  go_wp2_with fail
  refine (HN.out _).mono ?_
  rintro e w5 ⟨rfl, rfl⟩
  go_wp2_with fail
  go_returns
  refine ⟨_, rfl, (HC _ _).out rfl, ?_⟩
  repeat' first | exact Below.refl _ _ | (refine Below.setCell ?_ ?_ _) | (refine Below.alloc ?_ ?_ _)
  all_goals first | (simp; done) | (simp; omega)
set_option maxHeartbeats 2000000 in
theorem commandOf_piece (k : ByteArray) (w : World) (hp : pieceB k.toList = true) (hn : k.toList ≠ kBoard ∧ k.toList ≠ kTile ∧ k.toList ≠ kDark ∧ k.toList ≠ kPegs ∧ k.toList ≠ kFold) : Calls Tryz.prog 40 #[.string k] w (Commands k w) := by
  have q0 : (k.toList == [98, 111, 97, 114, 100]) = false := beq_eq_false_iff_ne.2 hn.1
  have q1 : (k.toList == [116, 105, 108, 101]) = false := beq_eq_false_iff_ne.2 hn.2.1
  have q2 : (k.toList == [100, 97, 114, 107]) = false := beq_eq_false_iff_ne.2 hn.2.2.1
  have q3 : (k.toList == [112, 101, 103, 115]) = false := beq_eq_false_iff_ne.2 hn.2.2.2.1
  have q4 : (k.toList == [102, 111, 108, 100]) = false := beq_eq_false_iff_ne.2 hn.2.2.2.2
  have HN := hide (fun w5 => numbersBehind_c k w5)
  have HV := hide (fun w5 => show Calls Tryz.prog 63 #[.string k] w5 (Plain (.bool true) w5) by
    have := implValidKind_c k w5
    obtain ⟨p, hk⟩ := piece_kindG hp
    rw [hk] at this
    exact this)
  have HF := hide (fun w5 => reachA_c k w5)
  have HC : ∀ (W : World) (v : Value), Hid ((∃ b, v = .func (.func 91) #[] #[.pointer (some ⟨b, 0, none⟩)] ∧ W.cell? ⟨b, 0, none⟩ = some (.string k)) → Cmd k W v) := fun W v h => .inr (.inr (.inr (.inr (.inr ⟨hp, hn, h⟩))))
  unfold Commands
  generalize needN k.toList = m at *
  clear hp hn
  have hs0 := fun (a : Addr) (w : World) => run_store Tryz.prog w a .nilFunc .plain rfl
  have hs1 := fun (a : Addr) (c : Array Value) (w : World) => run_store Tryz.prog w a (.func (.func 91) #[] c) .plain rfl
  go_enter Tryz.func40, Tryz.ntmps40
  go_wp2_with fail
  refine (HN.out _).mono ?_
  rintro e w5 ⟨rfl, rfl⟩
  go_wp2_with fail
  refine (HV.out _).mono ?_
  rintro e w6 ⟨rfl, b6⟩
  have HB6 := hide (below_then (((Below.refl w.heap.size w).alloc (Nat.le_refl _) (.cells #[.int .i64 0, .nilFunc] 77)).alloc (by simp) (.cells #[.int .i64 m, .nilFunc] 77)) (by simp; omega) b6)
  have bz0 := ((Box.new w 77 #[.int .i64 0, .nilFunc]).alloc (.cells #[.int .i64 m, .nilFunc] 77)).then b6
  have bz1 := (show Box ((w.alloc (.cells #[.int .i64 0, .nilFunc] 77)).alloc (.cells #[.int .i64 m, .nilFunc] 77)) (w.heap.size + 1) 77 #[.int .i64 m, .nilFunc] by
    have := Box.new (w.alloc (.cells #[.int .i64 0, .nilFunc] 77)) 77 #[.int .i64 m, .nilFunc]
    simpa using this).then b6
  have s6 : w.heap.size + 2 ≤ w6.heap.size := by have := b6.size; simpa using this
  have n0 : w6.heap.size ≠ w.heap.size := by omega
  have n1 : w6.heap.size ≠ w.heap.size + 1 := by omega
  have bx0 := bz0.alloc (.cells #[.string k] 9)
  have bx1 := bz1.alloc (.cells #[.string k] 9)
  have d0 : (w6.alloc (.cells #[.string k] 9)).cell? ⟨w.heap.size, 0, none⟩ = _ := bx0.cell 0
  have d1 : (w6.alloc (.cells #[.string k] 9)).cell? ⟨w.heap.size, 1, none⟩ = _ := bx0.cell 1
  have d2 : (w6.alloc (.cells #[.string k] 9)).cell? ⟨w.heap.size + 1, 0, none⟩ = some (.int .i64 m) := bx1.cell 0
  have d3 : (w6.alloc (.cells #[.string k] 9)).cell? ⟨w.heap.size + 1, 1, none⟩ = some .nilFunc := bx1.cell 1
  have f0 := bx0.free 0
  have f1 := bx0.free 1
  have f3 := bx1.free 1
  clear b6
  go_wp2_with fail
  refine (HF.out _).mono ?_
  rintro e w7 ⟨rfl, rfl⟩
  go_wp2_with fail
  have bxe := ((bx0.other (p := ⟨w.heap.size + 1, 1, none⟩) (by simp) (.func (.func 91) #[] #[.pointer (some ⟨w6.heap.size, 0, none⟩)])).set 0 (.int .i64 m)).set 1 (.func (.func 91) #[] #[.pointer (some ⟨w6.heap.size, 0, none⟩)])
  have e0 := bxe.cell 0
  have e1 := bxe.cell 1
  simp only [List.setIfInBounds_toArray] at e0 e1
  have bs := ((((Box.new w6 9 #[.string k]).other (p := ⟨w.heap.size + 1, 1, none⟩) n1 (.func (.func 91) #[] #[.pointer (some ⟨w6.heap.size, 0, none⟩)])).other (p := ⟨w.heap.size, 0, none⟩) n0 (.int .i64 m)).other (p := ⟨w.heap.size, 1, none⟩) n0 (.func (.func 91) #[] #[.pointer (some ⟨w6.heap.size, 0, none⟩)])).cell 0
  refine bodyPost_ret (v := .tuple #[.agg #[.int .i64 m, .func (.func 91) #[] #[.pointer (some ⟨w6.heap.size, 0, none⟩)]], .nilIface]) (by simp [results, Tryz.results40, go_sem, e0, e1]) rfl ⟨_, rfl, (HC _ _).out ⟨_, rfl, bs⟩, ?_⟩
  exact (((HB6.out.alloc HB6.out.size _).setCell (p := ⟨w.heap.size + 1, 1, none⟩) (Nat.le_succ _) _).setCell (p := ⟨w.heap.size, 0, none⟩) (Nat.le_refl _) _).setCell (p := ⟨w.heap.size, 1, none⟩) (Nat.le_refl _) _
set_option maxHeartbeats 2000000 in
theorem commandOf_what (k : ByteArray) (w : World) (hn : knownB k.toList = false) (x : Value) (hx : w.cell? ⟨1, 0, none⟩ = some (.iface 230 x)) : Calls Tryz.prog 40 #[.string k] w (Plain (.tuple #[.agg #[.int .i64 0, .nilFunc], .iface 230 x]) w) := by
  unfold knownB at hn
  simp only [Bool.or_eq_false_iff] at hn
  obtain ⟨⟨⟨⟨⟨q0, q1⟩, q2⟩, q3⟩, q4⟩, hp⟩ := hn
  replace q0 : (k.toList == [98, 111, 97, 114, 100]) = false := q0
  replace q1 : (k.toList == [116, 105, 108, 101]) = false := q1
  replace q2 : (k.toList == [100, 97, 114, 107]) = false := q2
  replace q3 : (k.toList == [112, 101, 103, 115]) = false := q3
  replace q4 : (k.toList == [102, 111, 108, 100]) = false := q4
  have HN := hide (fun w5 => numbersBehind_c k w5)
  have HV := hide (fun w5 => show Calls Tryz.prog 63 #[.string k] w5 (Plain (.bool false) w5) by
    have := implValidKind_c k w5
    rw [kind_piece hp] at this
    exact this)
  generalize needN k.toList = m at *
  clear hp
  have hxl : 1 < w.heap.size := cell_lt hx
  have hs0 := fun (a : Addr) (w : World) => run_store Tryz.prog w a .nilFunc .plain rfl
  go_enter Tryz.func40, Tryz.ntmps40
  go_wp2_with fail
  refine (HN.out _).mono ?_
  rintro e w5 ⟨rfl, rfl⟩
  go_wp2_with fail
  refine (HV.out _).mono ?_
  rintro e w6 ⟨rfl, b6⟩
  have HB6 := hide (below_then (((Below.refl w.heap.size w).alloc (Nat.le_refl _) (.cells #[.int .i64 0, .nilFunc] 77)).alloc (by simp) (.cells #[.int .i64 m, .nilFunc] 77)) (by simp; omega) b6)
  have bz0 := ((Box.new w 77 #[.int .i64 0, .nilFunc]).alloc (.cells #[.int .i64 m, .nilFunc] 77)).then b6
  have d0 : w6.cell? ⟨w.heap.size, 0, none⟩ = some (.int .i64 0) := bz0.cell 0
  have d1 : w6.cell? ⟨w.heap.size, 1, none⟩ = some .nilFunc := bz0.cell 1
  have f0 := bz0.free 0
  have f1 := bz0.free 1
  have bxe := (bz0.set 0 (.int .i64 0)).set 1 .nilFunc
  have e0 := bxe.cell 0
  have e1 := bxe.cell 1
  simp only [List.setIfInBounds_toArray] at e0 e1
  have hx7 : w.heap.size ≠ 1 := Nat.ne_of_gt hxl
  have hx6 : w6.cell? ⟨1, 0, none⟩ = some (.iface 230 x) := (HB6.out.cell (p := ⟨1, 0, none⟩) hxl).trans hx
  clear b6
  go_wp2_with fail
  go_region
  all_goals (go_wp2_with fail)
  all_goals (refine bodyPost_ret (v := .tuple #[.agg #[.int .i64 0, .nilFunc], .iface 230 x]) (by simp [results, Tryz.results40, go_sem, e0, e1]) rfl ⟨rfl, ?_⟩)
  all_goals first | exact (HB6.out.setCell (p := ⟨w.heap.size, 0, none⟩) (Nat.le_refl _) _).setCell (p := ⟨w.heap.size, 1, none⟩) (Nat.le_refl _) _ | exact ((HB6.out.drew.setCell (p := ⟨w.heap.size, 0, none⟩) (Nat.le_refl _) _).setCell (p := ⟨w.heap.size, 1, none⟩) (Nat.le_refl _) _) | exact ((HB6.out.setCell (p := ⟨w.heap.size, 0, none⟩) (Nat.le_refl _) _).setCell (p := ⟨w.heap.size, 1, none⟩) (Nat.le_refl _) _).drew
end Go.Proofs.YtmfdlijkpdgimaaGreatDoor

/-
  The desk of the program: numbersOf.
-/
namespace Go.Proofs.YtmfdlijkpdgimaaGreatDoor
open Go.RowKit
set_option linter.unusedVariables false

theorem atoi_ok (s : ByteArray) (hs : s.size ≤ 1073741824) (v : Int) (h : Lib.atoiAll s.data.toList = .ok v) (w : World) : Calls Tryz.prog 65 #[.string s] w (Plain (.tuple #[.int .i64 v, .nilIface]) w) :=
  (Tryz.strconv_Atoi_ok s (by omega) v h w).mono fun e w' ⟨he, hw⟩ => ⟨he, by
    rcases hw with rfl | ⟨t, rfl⟩
    · exact Below.refl _ _
    · exact Lib.bytesWorld_below _ _ _⟩
theorem atoi_bad (s : ByteArray) (hs : s.size ≤ 1073741824) (h : ∀ v, Lib.atoiAll s.data.toList ≠ .ok v) (w : World) (hT : TabZ w) :
    Calls Tryz.prog 65 #[.string s] w fun e w' => ∃ n te pe, e = .returned (.tuple #[.int .i64 n, .iface te pe]) ∧ Below w.heap.size w w' := by
  rcases hq : Lib.atoiAll s.data.toList with v | _ | _
  · exact absurd hq (h v)
  · obtain ⟨te, pe, hc⟩ := hT.syn
    have hx : Calls Tryz.prog 65 #[.string s] w _ := Any.strconv_Atoi_syntax Tryz.laysC172 s (by omega) hq _ w hc (.inr ⟨te, pe, rfl⟩)
    exact hx.mono fun e w' ⟨N, he, _, _, hb⟩ => ⟨_, _, _, he, hb⟩
  · obtain ⟨te, pe, hc⟩ := hT.rng
    exact (Tryz.strconv_Atoi_range s (by omega) hq _ w hc (.inr ⟨te, pe, rfl⟩)).mono fun e w' ⟨N, he, _, _, hb⟩ => ⟨_, _, _, he, hb⟩
theorem itoaL_c (n : Int) (h0 : -9223372036854775808 ≤ n) (h1 : n ≤ 9223372036854775807) (w : World) (hT : TabZ w) : Calls Tryz.prog 66 #[.int .i64 n] w (Plain (.string ⟨(Lib.itoa n).toArray⟩) w) :=
  (Tryz.strconv_Itoa n h0 h1 w hT.pows).mono fun e w' ⟨he, k, os, hw⟩ => ⟨he, hw ▸ Lib.below_grow _ w (Nat.le_refl _) k os⟩
/-- What numbersOf hands back. -/
def Numbers (ws : List ByteArray) (w : World) (e : Ending) (w' : World) : Prop :=
  (numsTo ws ws.length = none ∧ e = .returned (.tuple #[.slice none 0 0, .bool false]) ∧ Below w.heap.size w w') ∨
  (∃ L v, numsTo ws ws.length = some L ∧ e = .returned (.tuple #[v, .bool true]) ∧ w'.ownsRow w.heap.size 3 1 v L.length (ints L) ∧ Below w.heap.size w w')
set_option maxHeartbeats 2000000 in
theorem numbersOf_c (A : Option Addr) (c : Nat) (ws : List ByteArray) (w : World) (hr : Row w A (strsV ws)) (hm : ws.length ≤ 1099511627775) (hl : ∀ i, i < ws.length → (ws[i]?.getD ⟨#[]⟩).size ≤ 1073741824) (hT : TabZ w) :
    Calls Tryz.prog 41 #[.slice A ws.length c] w (Numbers ws w) := by
  have HR := hide hr
  have HL := hide hl
  have HT := hide hT
  have HB0 := hide (fun (k : Nat) (hk : k < ws.length) (h : ∀ v, Lib.atoiAll (ws[k]?.getD ⟨#[]⟩).data.toList ≠ .ok v) w5 (h5 : Below w.heap.size w w5) => atoi_bad _ (hl k hk) h w5 (hT.below h5))
  have HB1 := hide (fun (k : Nat) (hk : k < ws.length) (v : Int) (h : Lib.atoiAll (ws[k]?.getD ⟨#[]⟩).data.toList = .ok v) w5 => atoi_ok _ (hl k hk) v h w5)
  have HB2 := hide (fun (v : Int) (h0 : -9223372036854775808 ≤ v) (h1 : v ≤ 9223372036854775807) w5 (h5 : Below w.heap.size w w5) => itoaL_c v h0 h1 w5 (hT.below h5))
  have HSt := hide (fun (k : Nat) (L : List Int) (h : numsTo ws k = some L) => show numsTo ws (k + 1) = match numZ (ws[k]?.getD ⟨#[]⟩) with | none => none | some v => some (L ++ [v]) by
    show (match numsTo ws k with | none => none | some L => match numZ (ws[k]?.getD ⟨#[]⟩) with | none => none | some v => some (L ++ [v])) = _
    rw [h])
  have HNo := hide (fun (k : Nat) (hk : k < ws.length) (h : numsTo ws (k + 1) = none) => nums_none h ws.length hk)
  have HLe := hide (fun (k : Nat) (L : List Int) (h : numsTo ws k = some L) => nums_len ws k L h)
  have HNu : Hid (Numbers ws w = fun e w' => (numsTo ws ws.length = none ∧ e = .returned (.tuple #[.slice none 0 0, .bool false]) ∧ Below w.heap.size w w') ∨
    (∃ L v, numsTo ws ws.length = some L ∧ e = .returned (.tuple #[v, .bool true]) ∧ w'.ownsRow w.heap.size 3 1 v L.length (ints L) ∧ Below w.heap.size w w')) := rfl
  rw [HNu.out]
  generalize hn : ws.length = n at *
  clear hr hl hT HNu
  go_enter Tryz.func41, Tryz.ntmps41
  go_wp2_with fail
  go_loopw [4, 11] (fun v iv wr => ∃ (k : Nat) (L : List Int), k ≤ n ∧ iv = .int .i64 (k : Int) ∧ numsTo ws k = some L ∧ wr.ownsRow w.heap.size 3 1 v L.length (ints L) ∧ Below w.heap.size w wr) (fun _ iv _ => n - (intOf iv).toNat)
  case atStart => exact ⟨0, [], Nat.zero_le _, rfl, rfl, World.ownsRow_nil _ _ _ _, Below.refl _ _⟩
  case round =>
    obtain ⟨k, L, hk, rfl, hNL, hown, hb⟩ := hrel
    obtain ⟨wo, rfl⟩ : ∃ wo : World, wo = wr := ⟨_, rfl⟩
    have hLk := hide (HLe.out k L hNL)
    by_cases hlt : k < n
    · obtain ⟨ad, rfl, hca⟩ := str_row (HR.out.below hb) (k := k) (by omega)
      have HSk := hide (HSt.out k L hNL)
      have HNk := hide (HNo.out k hlt)
      have HBk := hide (HB0.out k hlt)
      have HCk := hide (HB1.out k hlt)
      have OW := hide hown
      have HB := hide hb
      obtain ⟨A1, c1, rfl, hc1, hc2, _⟩ := own_row hown
      clear HSt HNo HB0 HB1 hNL hown hb HL HLe
      generalize ws[k]?.getD ⟨#[]⟩ = s at *
      by_cases hok : ∃ v, Lib.atoiAll s.data.toList = .ok v
      · obtain ⟨v, hv⟩ := hok
        obtain ⟨v0, v1⟩ := Lib.atoiAll_bounds hv
        have HAv := hide (HCk.out v hv)
        have HIv := hide (HB2.out v v0 v1)
        have hZ : Hid (numZ s = if (⟨(Lib.itoa v).toArray⟩ : ByteArray) = s then some v else none) := hide <| by
          unfold numZ
          rw [hv]
        clear HBk HCk HB2 hv
        obtain ⟨y, hy⟩ : ∃ y : ByteArray, (⟨(Lib.itoa v).toArray⟩ : ByteArray) = y := ⟨_, rfl⟩
        rw [hy] at hZ HIv
        clear hy
        go_wp2_with fail
        refine (HAv.out _).mono ?_
        rintro e w5 ⟨rfl, b5⟩
        have O5 := hide (own_below OW.out b5)
        have B5 := hide (below_then HB.out HB.out.size b5)
        clear b5
        by_cases hys : y = s
        · subst hys
          rw [if_pos rfl] at hZ
          have q1 : (y.toList == y.toList) = true := by simp
          have q2 : (y.toList != y.toList) = false := by simp
          go_wp2_with fail
          refine (HIv.out _ B5.out).mono ?_
          rintro e w6 ⟨rfl, b6⟩
          have O6 := hide (own_below O5.out b6)
          have B6 := hide (below_then B5.out B5.out.size b6)
          clear b6
          have oe := O6.out.alloc (.cells #[.int .i64 v] 3)
          have be := B6.out.alloc B6.out.size (.cells #[.int .i64 v] 3)
          go_wp2_with (first
            | (at_builtin; refine put_own rfl (.tmp 28) (.tmp 30) rfl Tryz.underlying35 elem_int rfl oe rfl (m := 1) (news := [.int .i64 v]) rfl (row_new _ _ _ rfl) (by simp [Value.oneCell']) (by have := hLk.out; omega) (by omega) be.size ?_
               intro v3 w3 own3 hg3 ho3
               have b3 := below_grown be be.size oe (Nat.le_refl _) hg3
               obtain ⟨A3, c3, rfl, _, _, _, _⟩ := own_row own3))
          exact ⟨⟨k + 1, L ++ [v], hlt, by go_num, by rw [HSk.out, hZ.out], by simpa [ints] using own3, b3⟩, by simp [intOf]; omega⟩
        · rw [if_neg hys] at hZ
          have hyl : y.toList ≠ s.toList := fun e => hys (ba_eq e)
          have q1 : (y.toList == s.toList) = false := beq_eq_false_iff_ne.2 hyl
          have q2 : (y.toList != s.toList) = true := by unfold bne; rw [q1]; rfl
          clear hyl hys
          go_wp2_with fail
          refine (HIv.out _ B5.out).mono ?_
          rintro e w6 ⟨rfl, b6⟩
          have B6 := hide (below_then B5.out B5.out.size b6)
          clear b6
          go_wp2_with fail
          go_ret2
          exact .inl ⟨HNk.out (by rw [HSk.out, hZ.out]), rfl, B6.out⟩
      · have hbad : ∀ v, Lib.atoiAll s.data.toList ≠ .ok v := fun v h => hok ⟨v, h⟩
        have HAv := hide (HBk.out hbad)
        have hZ : Hid (numZ s = none) := hide <| by
          unfold numZ
          split
          · rename_i v h
            exact absurd h (hbad v)
          · rfl
        clear HBk HCk HB2 hbad hok
        go_wp2_with fail
        refine (HAv.out _ HB.out).mono ?_
        rintro e w5 ⟨n5, te, pe, rfl, b5⟩
        have B5 := hide (below_then HB.out HB.out.size b5)
        clear b5
        go_wp2_with fail
        go_ret2
        exact .inl ⟨HNk.out (by rw [HSk.out, hZ.out]), rfl, B5.out⟩
    · obtain rfl : k = n := by omega
      have OW := hide hown
      have HB := hide hb
      obtain ⟨A1, c1, rfl, hc1, hc2, _⟩ := own_row hown
      clear HB0 HB1 HB2 HSt HNo HLe hown hb HR HL
      go_wp2_with fail
      go_ret2
      exact .inr ⟨L, _, hNL, rfl, OW.out, HB.out⟩
end Go.Proofs.YtmfdlijkpdgimaaGreatDoor

/-
  The desk of the program: each command's answer, as the desk wants it.
-/
namespace Go.Proofs.YtmfdlijkpdgimaaGreatDoor
open Go.RowKit
set_option linter.unusedVariables false

theorem split_c (s : ByteArray) (hs : s.size ≤ 1073741824) (w : World) (hT : TabZ w) : Calls Tryz.prog 39 #[.string s, .string ⟨#[32]⟩] w fun e w' =>
    e = .returned (.slice (some ⟨w.heap.size, 0, none⟩) (splitB s 32).length (splitB s 32).length) ∧ w' = w.alloc (.cells (strsV (splitB s 32)).toArray 9) := by
  obtain ⟨m, hm⟩ := hT.ml
  have h := Tryz.strings_Split s ⟨#[32]⟩ m w (by omega) hm (by decide)
  have h1 : Lib.splitB ⟨#[32]⟩ 0 (Lib.countB s ⟨#[32]⟩) s = splitB s 32 := split_lib s.size s (Nat.le_refl _)
  have h2 := Lib.splitB_all ⟨#[32]⟩ (by decide) 0 _ s rfl
  rw [h1] at h h2
  rw [← h2] at h
  exact h

/-- A command has answered. -/
def SaysD (r : Option (ByteArray × Int × Int)) (bw bh : Int) (g : Nat) (w : World) (e : Ending) (w' : World) : Prop :=
  ∃ t', e = .returned (.tuple #[.string t', .bool r.isSome]) ∧ w.grownBy w' (some g) ∧ (r = none → Box w' g 40 #[.int .i64 bw, .int .i64 bh]) ∧ ∀ x, r = some x → t' = x.1 ∧ Box w' g 40 #[.int .i64 x.2.1, .int .i64 x.2.2]
theorem SaysB.toD_if {q : Prop} [Decidable q] {t : ByteArray} {bw bh : Int} {g : Nat} {w w' : World} {e : Ending} {ok : Bool} (hq : ok = decide q) (h : SaysB t ok g bw bh w e w') : SaysD (if q then some (t, bw, bh) else none) bw bh g w e w' := by
  obtain ⟨t', h1, h2, h3, h4⟩ := h
  subst hq
  by_cases h : q
  · rw [if_pos h]
    rw [decide_eq_true h] at h1 h2
    exact ⟨t', h1, h3, fun e => (by cases e), fun x e => by injection e with e; subst e; exact ⟨h2 rfl, h4⟩⟩
  · rw [if_neg h]
    rw [decide_eq_false h] at h1
    exact ⟨t', h1, h3, fun _ => h4, fun x e => (by cases e)⟩
/-- What a command is handed. -/
def Handed (g : Nat) (bw bh : Int) (A : Option Addr) (L : List Int) (w : World) : Prop := TabZ w ∧ Box w g 40 #[.int .i64 bw, .int .i64 bh] ∧ Row w A (ints L) ∧ ∀ ad, A = some ad → ∃ ga, ad = (⟨ga, 0, none⟩ : Addr)
theorem Handed.desk {g : Nat} {bw bh : Int} {A : Option Addr} {L : List Int} {w : World} (h : Handed g bw bh A L w) : DeskW w g bw bh A L w := ⟨h.1, h.2.1, h.2.2.1, Below.refl _ _⟩
theorem Handed.addr {g : Nat} {bw bh : Int} {A : Option Addr} {L : List Int} {w : World} (h : Handed g bw bh A L w) (hl : 0 < L.length) : ∃ ga, A = some (⟨ga, 0, none⟩ : Addr) := by
  obtain ⟨ad, e, _⟩ := h.2.2.1 0 (by simpa using hl)
  obtain ⟨ga, rfl⟩ := h.2.2.2 ad e
  exact ⟨ga, e⟩
theorem do_board {k : ByteArray} (hk : k.toList = kBoard) (bw bh : Int) (L : List Int) : doN deskD bw bh k L = if Brd (nth L 0) (nth L 1) then some (tDone, nth L 0, nth L 1) else none := if_pos hk
theorem do_tile {k : ByteArray} (hk : k.toList = kTile) (bw bh : Int) (L : List Int) : doN deskD bw bh k L = some (numB (coversP bw bh []), bw, bh) := by
  unfold doN
  rw [if_neg (by rw [hk]; decide), if_pos hk]
  rfl
theorem do_dark {k : ByteArray} (hk : k.toList = kDark) (bw bh : Int) (L : List Int) : doN deskD bw bh k L = if LitS bw bh (nth L 0) then some (numB (fewVL bw bh (nth L 0)), bw, bh) else none := by
  unfold doN
  rw [if_neg (by rw [hk]; decide), if_neg (by rw [hk]; decide), if_pos hk]
  show (if decide (LitS bw bh (nth L 0)) = true then _ else _) = _
  by_cases h : LitS bw bh (nth L 0)
  · rw [if_pos h, if_pos (decide_eq_true h)]; rfl
  · rw [if_neg h, if_neg (by rw [decide_eq_false h]; decide)]
theorem do_pegs {k : ByteArray} (hk : k.toList = kPegs) (bw bh : Int) (L : List Int) : doN deskD bw bh k L = if PegS bw bh (nth L 0) then some (numB (fewV bw bh (nth L 0)), bw, bh) else none := by
  unfold doN
  rw [if_neg (by rw [hk]; decide), if_neg (by rw [hk]; decide), if_neg (by rw [hk]; decide), if_pos hk]
  show (if decide (PegS bw bh (nth L 0)) = true then _ else _) = _
  by_cases h : PegS bw bh (nth L 0)
  · rw [if_pos h, if_pos (decide_eq_true h)]; rfl
  · rw [if_neg h, if_neg (by rw [decide_eq_false h]; decide)]
theorem do_fold {k : ByteArray} (hk : k.toList = kFold) (bw bh : Int) (L : List Int) : doN deskD bw bh k L = if bw * bh ≤ 9 then some (listB (natI (foldV bw bh sKing)) (natI (foldV bw bh sKing)).length, bw, bh) else none := by
  unfold doN
  rw [if_neg (by rw [hk]; decide), if_neg (by rw [hk]; decide), if_neg (by rw [hk]; decide), if_neg (by rw [hk]; decide), if_pos hk]
  rfl
theorem do_piece {k : ByteArray} (hn : k.toList ≠ kBoard ∧ k.toList ≠ kTile ∧ k.toList ≠ kDark ∧ k.toList ≠ kPegs ∧ k.toList ≠ kFold) (bw bh : Int) (L : List Int) : doN deskD bw bh k L = if 0 ≤ nth L 0 ∧ nth L 0 < bw * bh then some (listB (askCells bw bh k (nth L 0)) (askCells bw bh k (nth L 0)).length, bw, bh) else none := by
  unfold doN
  rw [if_neg hn.1, if_neg hn.2.1, if_neg hn.2.2.1, if_neg hn.2.2.2.1, if_neg hn.2.2.2.2]
  by_cases h : 0 ≤ nth L 0 ∧ nth L 0 < bw * bh
  · rw [if_pos h, if_pos ⟨h.1, by omega⟩]; rfl
  · rw [if_neg h, if_neg (fun h' => h ⟨h'.1, by omega⟩)]
theorem need_board {k : ByteArray} (hk : k.toList = kBoard) : needN k.toList = 2 := by rw [hk]; decide
theorem need_tile {k : ByteArray} (hk : k.toList = kTile) : needN k.toList = 0 := by rw [hk]; decide
theorem need_dark {k : ByteArray} (hk : k.toList = kDark) : needN k.toList = 1 := by rw [hk]; decide
theorem need_pegs {k : ByteArray} (hk : k.toList = kPegs) : needN k.toList = 1 := by rw [hk]; decide
theorem need_fold {k : ByteArray} (hk : k.toList = kFold) : needN k.toList = 0 := by rw [hk]; decide
theorem need_piece {k : ByteArray} (hn : k.toList ≠ kBoard ∧ k.toList ≠ kTile ∧ k.toList ≠ kDark ∧ k.toList ≠ kPegs ∧ k.toList ≠ kFold) : needN k.toList = 1 := by
  unfold needN
  rw [if_neg (fun h => h.elim hn.2.1 hn.2.2.2.2), if_neg hn.1]
section
variable {g : Nat} {bw bh : Int} {A : Option Addr} {L : List Int} {w : World} {k : ByteArray}
theorem ans_board (hk : k.toList = kBoard) (hL : L.length = needN k.toList) (h : Handed g bw bh A L w) (c : Nat) :
    Calls Tryz.prog 57 #[.pointer (some ⟨g, 0, none⟩), .slice A L.length c] w (SaysD (doN deskD bw bh k L) bw bh g w) := by
  rw [do_board hk]
  rw [need_board hk] at hL
  obtain ⟨ga, rfl⟩ := h.addr (by omega)
  obtain ⟨a, b, rfl⟩ : ∃ a b, L = [a, b] := match L, hL with | [a, b], _ => ⟨a, b, rfl⟩
  show Calls Tryz.prog 57 #[.pointer (some ⟨g, 0, none⟩), .slice (some ⟨ga, 0, none⟩) 2 c] w (SaysD (if Brd a b then some (tDone, a, b) else none) bw bh g w)
  by_cases hB : Brd a b
  · rw [if_pos hB]
    exact (boardAnswer_yes g ga bw bh a b hB c w h.desk).mono fun e w' ⟨t', h1, h2, h3, h4⟩ => ⟨t', h1, h3, fun e => (by cases e), fun x e => by injection e with e; subst e; exact ⟨h2 rfl, h4⟩⟩
  · rw [if_neg hB]
    exact (boardAnswer_no g ga bw bh a b hB c w h.desk).mono fun e w' ⟨t', h1, h2, h3, h4⟩ => ⟨t', h1, h3, fun _ => h4, fun x e => (by cases e)⟩
theorem desk_nil (h : DeskW w g bw bh A L w) : DeskW w g bw bh none [] w := ⟨h.tab, h.brd, Row.empty _ _, h.bel⟩
theorem ans_tile (hk : k.toList = kTile) (h : Handed g bw bh A L w) (c : Nat) :
    Calls Tryz.prog 58 #[.pointer (some ⟨g, 0, none⟩), .slice A L.length c] w (SaysD (doN deskD bw bh k L) bw bh g w) := by
  rw [do_tile hk]
  refine (tileAnswer_c g bw bh A L.length c w (desk_nil h.desk)).mono fun e w' hs => ?_
  obtain ⟨t', h1, h2, h3, h4⟩ := hs.toB h.2.1
  exact ⟨t', h1, h3, fun e => (by cases e), fun x e => by injection e with e; subst e; exact ⟨h2 rfl, h4⟩⟩
theorem ans_fold (hB : Brd bw bh) (hk : k.toList = kFold) (h : Handed g bw bh A L w) (c : Nat) :
    Calls Tryz.prog 62 #[.pointer (some ⟨g, 0, none⟩), .slice A L.length c] w (SaysD (doN deskD bw bh k L) bw bh g w) := by
  rw [do_fold hk]
  exact (foldAnswer_c g bw bh hB A L.length c w (desk_nil h.desk)).mono fun e w' hs => (hs.toB h.2.1).toD_if rfl
theorem ans_dark (hk : k.toList = kDark) (hL : L.length = needN k.toList) (h : Handed g bw bh A L w) (c b : Nat) (hb : w.cell? ⟨b, 0, none⟩ = some (.func (.func 60) #[] #[])) :
    Calls Tryz.prog 79 #[.pointer (some ⟨g, 0, none⟩), .slice A L.length c, .pointer (some ⟨b, 0, none⟩)] w (SaysD (doN deskD bw bh k L) bw bh g w) := by
  rw [do_dark hk]
  rw [need_dark hk] at hL
  obtain ⟨ga, rfl⟩ := h.addr (by omega)
  obtain ⟨x, rfl⟩ := List.length_eq_one_iff.1 hL
  exact (darkAnswer_c g ga b bw bh x c w h.desk hb).mono fun e w' hs => (hs.toB h.2.1).toD_if rfl
theorem ans_pegs (hk : k.toList = kPegs) (hL : L.length = needN k.toList) (h : Handed g bw bh A L w) (c b : Nat) (hb : w.cell? ⟨b, 0, none⟩ = some (.func (.func 61) #[] #[])) :
    Calls Tryz.prog 79 #[.pointer (some ⟨g, 0, none⟩), .slice A L.length c, .pointer (some ⟨b, 0, none⟩)] w (SaysD (doN deskD bw bh k L) bw bh g w) := by
  rw [do_pegs hk]
  rw [need_pegs hk] at hL
  obtain ⟨ga, rfl⟩ := h.addr (by omega)
  obtain ⟨x, rfl⟩ := List.length_eq_one_iff.1 hL
  exact (pegsAnswer_c g ga b bw bh x c w h.desk hb).mono fun e w' hs => (hs.toB h.2.1).toD_if rfl
theorem ans_piece (hB : Brd bw bh) (hn : k.toList ≠ kBoard ∧ k.toList ≠ kTile ∧ k.toList ≠ kDark ∧ k.toList ≠ kPegs ∧ k.toList ≠ kFold) (hL : L.length = needN k.toList) (h : Handed g bw bh A L w) (c b : Nat) (hb : w.cell? ⟨b, 0, none⟩ = some (.string k)) :
    Calls Tryz.prog 91 #[.pointer (some ⟨g, 0, none⟩), .slice A L.length c, .pointer (some ⟨b, 0, none⟩)] w (SaysD (doN deskD bw bh k L) bw bh g w) := by
  rw [do_piece hn]
  rw [need_piece hn] at hL
  obtain ⟨ga, rfl⟩ := h.addr (by omega)
  obtain ⟨x, rfl⟩ := List.length_eq_one_iff.1 hL
  exact (reachAnswer_c g ga b bw bh hB k x c w h.desk hb).mono fun e w' hs => (hs.toB h.2.1).toD_if rfl
end
end Go.Proofs.YtmfdlijkpdgimaaGreatDoor
