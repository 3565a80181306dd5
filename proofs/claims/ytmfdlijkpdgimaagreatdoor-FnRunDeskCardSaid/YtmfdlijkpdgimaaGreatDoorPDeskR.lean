/-
  PDeskK, PDeskL in one text.
-/
import Derived.Test.YtmfdlijkpdgimaaGreatDoorPDeskO
import Derived.Test.YtmfdlijkpdgimaaGreatDoorPDeskF
/-
  The desk of the program: ask.
-/
namespace Go.Proofs.YtmfdlijkpdgimaaGreatDoor
open Go.RowKit
set_option linter.unusedVariables false

/-- What ask hands back. -/
def Asked (r : Option (Option (ByteArray × Int × Int))) (bw bh : Int) (line : ByteArray) (g : Nat) (w : World) (e : Ending) (w' : World) : Prop :=
  w.grownBy w' (some g) ∧ (r = none → (∃ x, e = .returned (.tuple #[.string ⟨#[]⟩, .iface 230 x])) ∧ Box w' g 40 #[.int .i64 bw, .int .i64 bh]) ∧
  (r = some none → e = .returned (.tuple #[.string ⟨#[]⟩, .iface 58 (.agg #[.string line])]) ∧ Box w' g 40 #[.int .i64 bw, .int .i64 bh]) ∧
  ∀ x, r = some (some x) → e = .returned (.tuple #[.string x.1, .nilIface]) ∧ Box w' g 40 #[.int .i64 x.2.1, .int .i64 x.2.2]
theorem split_r (s : ByteArray) (hs : s.size ≤ 1073741824) (w : World) (hT : TabZ w) : Calls Tryz.prog 39 #[.string s, .string ⟨#[32]⟩] w fun e w' =>
    e = .returned (.slice (some ⟨w.heap.size, 0, none⟩) (splitB s 32).length (splitB s 32).length) ∧ Row w' (some ⟨w.heap.size, 0, none⟩) (strsV (splitB s 32)) ∧ Below w.heap.size w w' :=
  (split_c s hs w hT).mono fun e w' ⟨he, hw⟩ => ⟨he, by
    rw [hw]
    have := row_new w (strsV (splitB s 32)).toArray 9 rfl
    rwa [List.toList_toArray] at this, hw ▸ (Below.refl _ _).alloc (Nat.le_refl _) _⟩
theorem row_tail {w : World} {q : Nat} {x : Value} {l : List Value} (h : Row w (some ⟨q, 0, none⟩) (x :: l)) : w.cell? ⟨q, 0, none⟩ = some x ∧ Row w (some ⟨q, 1, none⟩) l := by
  have ha : ∀ a j, (Addr.add ⟨q, a, none⟩ j) = (⟨q, a + j, none⟩ : Addr) := fun a j => by
    unfold Addr.add
    split <;> simp_all
  constructor
  · obtain ⟨ad, e, hc⟩ := h 0 (by simp)
    injection e with e
    subst e
    rw [ha] at hc
    exact hc
  · intro j hj
    obtain ⟨ad, e, hc⟩ := h (j + 1) (by simp; omega)
    injection e with e
    subst e
    refine ⟨_, rfl, ?_⟩
    rw [ha] at hc ⊢
    rw [show 1 + j = 0 + (j + 1) by omega, hc]
    rfl
def askT (bw bh : Int) (k : ByteArray) (m : Nat) (NL : Option (List Int)) : Option (Option (ByteArray × Int × Int)) := match NL with
  | none => some none
  | some L => if L.length = m then some (doN deskD bw bh k L) else some none
theorem row_zero {w : World} {A : Option Addr} {l : List ByteArray} (h : l.length = 0) : Row w A (strsV l) := by
  rw [List.length_eq_zero_iff.1 h]
  exact Row.empty _ _
theorem split_cons (s : ByteArray) : ∃ k rest, splitB s 32 = k :: rest := by
  have h := split_pos s 32
  cases hq : splitB s 32 with
  | nil => rw [hq] at h; exact absurd h (by simp)
  | cons k rest => exact ⟨k, rest, rfl⟩
theorem split_len (s : ByteArray) (hs : s.size ≤ 1073741824) : (splitB s 32).length ≤ 1073741825 := by
  unfold splitB
  have := (cut_le s 32 s.size).2
  simp only [List.length_append, List.length_singleton]
  omega
set_option maxHeartbeats 2000000 in
theorem ask_what (g : Nat) (bw bh : Int) (line : ByteArray) (hs : line.size ≤ 1073741824) (w : World) (hT : TabZ w) (hg : Box w g 40 #[.int .i64 bw, .int .i64 bh]) (hk : knownB (headB (splitB line 32)).toList = false) :
    Calls Tryz.prog 23 #[.pointer (some ⟨g, 0, none⟩), .string line] w (Asked none bw bh line g w) := by
  have HS := hide (split_r line hs w hT)
  obtain ⟨k, rest, hW⟩ := split_cons line
  rw [hW] at HS hk
  have HC := hide (fun w5 (h5 : Below w.heap.size w w5) => show ∃ x, Calls Tryz.prog 40 #[.string k] w5 (Plain (.tuple #[.agg #[.int .i64 0, .nilFunc], .iface 230 x]) w5) by
    obtain ⟨x, hx⟩ := (hT.below h5).what
    exact ⟨x, commandOf_what k w5 hk x hx⟩)
  clear hT hs hk hW
  have hs0 := fun (a : Addr) (w : World) => run_store Tryz.prog w a .nilFunc .plain rfl
  have hgl := hide hg
  clear hg
  go_enter Tryz.func23, Tryz.ntmps23
  go_wp2_with fail
  refine HS.out.mono ?_
  rintro e w1 ⟨rfl, r1, b1⟩
  obtain ⟨x, hc⟩ := HC.out w1 b1
  have k1 := (row_tail r1).1
  have B1 := hide b1
  have HX := hide hc
  have l1 : (0 : Int) < (rest.length + 1 : Nat) := by omega
  clear HS HC r1 b1 hc
  simp only [List.length_cons]
  go_wp2_with fail
  refine HX.out.mono ?_
  rintro e w2 ⟨rfl, b2⟩
  have B2 := hide (below_then B1.out B1.out.size b2)
  clear b2
  go_wp2_with fail
  go_ret2
  have B3 := B2.out.alloc B2.out.size (.cells #[.int .i64 0, .nilFunc] 77)
  exact ⟨gb_below B3 _, fun _ => ⟨⟨x, rfl⟩, hgl.out.then B3⟩, fun e => (by cases e), fun x e => (by cases e)⟩
set_option maxHeartbeats 4000000 in
theorem ask_go0 (F : Nat) (eF : ∀ args w, (callFunc F args).run Tryz.prog w = .ok (.enter F args) w) (Q : Nat → World → Prop) (hQ : ∀ b W W', Q b W → Below W.heap.size W W' → Q b W')
    (g : Nat) (bw bh : Int) (line k : ByteArray) (rest : List ByteArray) (hW : splitB line 32 = k :: rest) (hs : line.size ≤ 1073741824) (w : World) (hT : TabZ w) (hg : Box w g 40 #[.int .i64 bw, .int .i64 bh])
    (hC : ∀ w5, Calls Tryz.prog 40 #[.string k] w5 fun e w' => ∃ b, e = .returned (.tuple #[.agg #[.int .i64 (needN k.toList : Int), .func (.func F) #[] #[]], .nilIface]) ∧ Q b w' ∧ Below w5.heap.size w5 w')
    (hA : ∀ A c L b w5, L.length = needN k.toList → Handed g bw bh A L w5 → Q b w5 → Calls Tryz.prog F #[.pointer (some ⟨g, 0, none⟩), .slice A L.length c] w5 (SaysD (doN deskD bw bh k L) bw bh g w5)) :
    Calls Tryz.prog 23 #[.pointer (some ⟨g, 0, none⟩), .string line] w (Asked (askT bw bh k (needN k.toList) (numsTo rest rest.length)) bw bh line g w) := by
  have HS := hide (split_r line hs w hT)
  have hlen := split_len line hs
  have hsz := split_small line 32 hs
  rw [hW] at HS hlen hsz
  rw [List.length_cons] at hlen
  have HN := hide (fun (A : Option Addr) (l c : Nat) (hl : l = rest.length) w5 (h5 : Below w.heap.size w w5) (h6 : Row w5 A (strsV rest)) => show Calls Tryz.prog 41 #[.slice A l c] w5 (Numbers rest w5) from hl ▸ numbersOf_c A c rest w5 h6 (by omega) (fun i hi => by
    have := hsz (i + 1) (by simp; omega)
    simpa using this) (hT.below h5))
  have HT := hide hT
  have HC := hide (fun w5 => hC w5)
  have HA := hide hA
  have HQ := hide hQ
  have hs1 := fun (a : Addr) (w : World) => run_store Tryz.prog w a (.func (.func F) #[] #[]) .plain rfl
  have hgl := hide hg
  clear hT hs hW hC hA hQ hg hsz
  generalize needN k.toList = m at *
  generalize hL0 : numsTo rest rest.length = NL at *
  go_enter Tryz.func23, Tryz.ntmps23
  go_wp2_with fail
  refine HS.out.mono ?_
  rintro e w1 ⟨rfl, r1, b1⟩
  obtain ⟨k1, t1⟩ := row_tail r1
  have R1 := hide t1
  have B1 := hide b1
  have l1 : (0 : Int) < (rest.length + 1 : Nat) := by omega
  have l2 : (1 : Int) ≤ (rest.length + 1 : Nat) := by omega
  clear HS r1 t1 b1
  simp only [List.length_cons]
  go_wp2_with fail
  refine (HC.out _).mono ?_
  rintro e w2 ⟨b, rfl, q2, b2⟩
  have B2 := hide (below_then B1.out B1.out.size b2)
  have R2 := hide (R1.out.below b2)
  have Q2 := hide q2
  clear HC R1 B1 q2 b2
  go_wp2_with fail
  · refine (HN.out _ _ _ (by first | rfl | omega | (simp_all; done)) _ (B2.out.alloc B2.out.size _) (row_zero (by first | omega | (simp_all; done)))).mono ?_
    have B3 := hide (B2.out.alloc B2.out.size (.cells #[.int .i64 m, .func (.func F) #[] #[]] 77))
    have bc := Box.new w2 77 #[.int .i64 m, .func (.func F) #[] #[]]
    have Q3 := hide (HQ.out b _ _ Q2.out ((Below.refl _ _).alloc (Nat.le_refl _) (.cells #[.int .i64 m, .func (.func F) #[] #[]] 77)))
    clear HN R2 B2 Q2
    rintro e w3 (⟨h1, rfl, b3⟩ | ⟨L, v3, h1, rfl, o3, b3⟩)
    · obtain rfl : NL = none := hL0.symm.trans h1
      have B4 := hide (below_then B3.out B3.out.size b3)
      clear b3 bc h1 hL0
      go_wp2_with fail
      go_ret2
      exact ⟨gb_below B4.out _, fun e => (by cases e), fun _ => ⟨rfl, hgl.out.then B4.out⟩, fun x e => (by cases e)⟩
    · obtain rfl : NL = some L := hL0.symm.trans h1
      obtain ⟨A3, c3, rfl, hc1, hc2, r3, a3⟩ := own_row o3
      have B4 := hide (below_then B3.out B3.out.size b3)
      have bc4 := bc.then b3
      have Q4 := hide (HQ.out b _ _ Q3.out b3)
      have d0 := bc4.cell 0
      have d1 := bc4.cell 1
      have HH := hide (show Handed g bw bh A3 L w3 from ⟨HT.out.below B4.out, hgl.out.then B4.out, r3, fun ad e => by
        obtain ⟨g3, rfl, _⟩ := a3 ad e
        exact ⟨g3, rfl⟩⟩)
      clear b3 bc h1 hL0 o3 r3 a3
      by_cases hm : L.length = m
      · have HAn := hide (HA.out A3 c3 L b w3 hm HH.out Q4.out)
        have hE : Hid (askT bw bh k m (some L) = some (doN deskD bw bh k L)) := if_pos hm
        obtain ⟨r, hr⟩ : ∃ r, doN deskD bw bh k L = r := ⟨_, rfl⟩
        rw [hr] at HAn hE
        clear hr
        have hme : ((L.length : Int) == (m : Int)) = true := by rw [beq_iff_eq]; omega
        have hmi : (L.length : Int) = (m : Int) := by omega
        clear HA hm
        go_wp2_with fail
        refine HAn.out.mono ?_
        rintro e w5 ⟨t5, rfl, g5, hn5, hs5⟩
        cases r with
        | none =>
          go_wp2_with fail
          go_ret2
          rw [hE.out]
          exact ⟨gb_trans (gb_below B4.out _) g5, fun e => (by cases e), fun _ => ⟨rfl, hn5 (by simp)⟩, fun x e => (by cases e)⟩
        | some x =>
          obtain ⟨rfl, hb5⟩ := hs5 x rfl
          go_wp2_with fail
          go_ret2
          rw [hE.out]
          exact ⟨gb_trans (gb_below B4.out _) g5, fun e => (by cases e), fun e => (by cases e), fun y e => by injection e with e; injection e with e; subst e; exact ⟨rfl, hb5⟩⟩
      · have hE : Hid (askT bw bh k m (some L) = some none) := if_neg hm
        have hme : ((L.length : Int) == (m : Int)) = false := by rw [beq_eq_false_iff_ne]; omega
        have hmi : ¬ (L.length : Int) = (m : Int) := by omega
        clear HA hm
        go_wp2_with fail
        go_ret2
        rw [hE.out]
        exact ⟨gb_below B4.out _, fun e => (by cases e), fun _ => ⟨rfl, hgl.out.then B4.out⟩, fun x e => (by cases e)⟩
  · refine (HN.out _ _ _ (by first | rfl | omega | (simp_all; done)) _ (B2.out.alloc B2.out.size _) (R2.out.alloc _)).mono ?_
    have B3 := hide (B2.out.alloc B2.out.size (.cells #[.int .i64 m, .func (.func F) #[] #[]] 77))
    have bc := Box.new w2 77 #[.int .i64 m, .func (.func F) #[] #[]]
    have Q3 := hide (HQ.out b _ _ Q2.out ((Below.refl _ _).alloc (Nat.le_refl _) (.cells #[.int .i64 m, .func (.func F) #[] #[]] 77)))
    clear HN R2 B2 Q2
    rintro e w3 (⟨h1, rfl, b3⟩ | ⟨L, v3, h1, rfl, o3, b3⟩)
    · obtain rfl : NL = none := hL0.symm.trans h1
      have B4 := hide (below_then B3.out B3.out.size b3)
      clear b3 bc h1 hL0
      go_wp2_with fail
      go_ret2
      exact ⟨gb_below B4.out _, fun e => (by cases e), fun _ => ⟨rfl, hgl.out.then B4.out⟩, fun x e => (by cases e)⟩
    · obtain rfl : NL = some L := hL0.symm.trans h1
      obtain ⟨A3, c3, rfl, hc1, hc2, r3, a3⟩ := own_row o3
      have B4 := hide (below_then B3.out B3.out.size b3)
      have bc4 := bc.then b3
      have Q4 := hide (HQ.out b _ _ Q3.out b3)
      have d0 := bc4.cell 0
      have d1 := bc4.cell 1
      have HH := hide (show Handed g bw bh A3 L w3 from ⟨HT.out.below B4.out, hgl.out.then B4.out, r3, fun ad e => by
        obtain ⟨g3, rfl, _⟩ := a3 ad e
        exact ⟨g3, rfl⟩⟩)
      clear b3 bc h1 hL0 o3 r3 a3
      by_cases hm : L.length = m
      · have HAn := hide (HA.out A3 c3 L b w3 hm HH.out Q4.out)
        have hE : Hid (askT bw bh k m (some L) = some (doN deskD bw bh k L)) := if_pos hm
        obtain ⟨r, hr⟩ : ∃ r, doN deskD bw bh k L = r := ⟨_, rfl⟩
        rw [hr] at HAn hE
        clear hr
        have hme : ((L.length : Int) == (m : Int)) = true := by rw [beq_iff_eq]; omega
        have hmi : (L.length : Int) = (m : Int) := by omega
        clear HA hm
        go_wp2_with fail
        refine HAn.out.mono ?_
        rintro e w5 ⟨t5, rfl, g5, hn5, hs5⟩
        cases r with
        | none =>
          go_wp2_with fail
          go_ret2
          rw [hE.out]
          exact ⟨gb_trans (gb_below B4.out _) g5, fun e => (by cases e), fun _ => ⟨rfl, hn5 (by simp)⟩, fun x e => (by cases e)⟩
        | some x =>
          obtain ⟨rfl, hb5⟩ := hs5 x rfl
          go_wp2_with fail
          go_ret2
          rw [hE.out]
          exact ⟨gb_trans (gb_below B4.out _) g5, fun e => (by cases e), fun e => (by cases e), fun y e => by injection e with e; injection e with e; subst e; exact ⟨rfl, hb5⟩⟩
      · have hE : Hid (askT bw bh k m (some L) = some none) := if_neg hm
        have hme : ((L.length : Int) == (m : Int)) = false := by rw [beq_eq_false_iff_ne]; omega
        have hmi : ¬ (L.length : Int) = (m : Int) := by omega
        clear HA hm
        go_wp2_with fail
        go_ret2
        rw [hE.out]
        exact ⟨gb_below B4.out _, fun e => (by cases e), fun _ => ⟨rfl, hgl.out.then B4.out⟩, fun x e => (by cases e)⟩
set_option maxHeartbeats 4000000 in
theorem ask_go1 (F : Nat) (eF : ∀ args w, (callFunc F args).run Tryz.prog w = .ok (.enter F args) w) (Q : Nat → World → Prop) (hQ : ∀ b W W', Q b W → Below W.heap.size W W' → Q b W')
    (g : Nat) (bw bh : Int) (line k : ByteArray) (rest : List ByteArray) (hW : splitB line 32 = k :: rest) (hs : line.size ≤ 1073741824) (w : World) (hT : TabZ w) (hg : Box w g 40 #[.int .i64 bw, .int .i64 bh])
    (hC : ∀ w5, Calls Tryz.prog 40 #[.string k] w5 fun e w' => ∃ b, e = .returned (.tuple #[.agg #[.int .i64 (needN k.toList : Int), .func (.func F) #[] #[.pointer (some ⟨b, 0, none⟩)]], .nilIface]) ∧ Q b w' ∧ Below w5.heap.size w5 w')
    (hA : ∀ A c L b w5, L.length = needN k.toList → Handed g bw bh A L w5 → Q b w5 → Calls Tryz.prog F #[.pointer (some ⟨g, 0, none⟩), .slice A L.length c, .pointer (some ⟨b, 0, none⟩)] w5 (SaysD (doN deskD bw bh k L) bw bh g w5)) :
    Calls Tryz.prog 23 #[.pointer (some ⟨g, 0, none⟩), .string line] w (Asked (askT bw bh k (needN k.toList) (numsTo rest rest.length)) bw bh line g w) := by
  have HS := hide (split_r line hs w hT)
  have hlen := split_len line hs
  have hsz := split_small line 32 hs
  rw [hW] at HS hlen hsz
  rw [List.length_cons] at hlen
  have HN := hide (fun (A : Option Addr) (l c : Nat) (hl : l = rest.length) w5 (h5 : Below w.heap.size w w5) (h6 : Row w5 A (strsV rest)) => show Calls Tryz.prog 41 #[.slice A l c] w5 (Numbers rest w5) from hl ▸ numbersOf_c A c rest w5 h6 (by omega) (fun i hi => by
    have := hsz (i + 1) (by simp; omega)
    simpa using this) (hT.below h5))
  have HT := hide hT
  have HC := hide (fun w5 => hC w5)
  have HA := hide hA
  have HQ := hide hQ
  have hs1 := fun (a : Addr) (b : Nat) (w : World) => run_store Tryz.prog w a (.func (.func F) #[] #[.pointer (some ⟨b, 0, none⟩)]) .plain rfl
  have hgl := hide hg
  clear hT hs hW hC hA hQ hg hsz
  generalize needN k.toList = m at *
  generalize hL0 : numsTo rest rest.length = NL at *
  go_enter Tryz.func23, Tryz.ntmps23
  go_wp2_with fail
  refine HS.out.mono ?_
  rintro e w1 ⟨rfl, r1, b1⟩
  obtain ⟨k1, t1⟩ := row_tail r1
  have R1 := hide t1
  have B1 := hide b1
  have l1 : (0 : Int) < (rest.length + 1 : Nat) := by omega
  have l2 : (1 : Int) ≤ (rest.length + 1 : Nat) := by omega
  clear HS r1 t1 b1
  simp only [List.length_cons]
  go_wp2_with fail
  refine (HC.out _).mono ?_
  rintro e w2 ⟨b, rfl, q2, b2⟩
  have B2 := hide (below_then B1.out B1.out.size b2)
  have R2 := hide (R1.out.below b2)
  have Q2 := hide q2
  clear HC R1 B1 q2 b2
  go_wp2_with fail
  · refine (HN.out _ _ _ (by first | rfl | omega | (simp_all; done)) _ (B2.out.alloc B2.out.size _) (row_zero (by first | omega | (simp_all; done)))).mono ?_
    have B3 := hide (B2.out.alloc B2.out.size (.cells #[.int .i64 m, .func (.func F) #[] #[.pointer (some ⟨b, 0, none⟩)]] 77))
    have bc := Box.new w2 77 #[.int .i64 m, .func (.func F) #[] #[.pointer (some ⟨b, 0, none⟩)]]
    have Q3 := hide (HQ.out b _ _ Q2.out ((Below.refl _ _).alloc (Nat.le_refl _) (.cells #[.int .i64 m, .func (.func F) #[] #[.pointer (some ⟨b, 0, none⟩)]] 77)))
    clear HN R2 B2 Q2
    rintro e w3 (⟨h1, rfl, b3⟩ | ⟨L, v3, h1, rfl, o3, b3⟩)
    · obtain rfl : NL = none := hL0.symm.trans h1
      have B4 := hide (below_then B3.out B3.out.size b3)
      clear b3 bc h1 hL0
      go_wp2_with fail
      go_ret2
      exact ⟨gb_below B4.out _, fun e => (by cases e), fun _ => ⟨rfl, hgl.out.then B4.out⟩, fun x e => (by cases e)⟩
    · obtain rfl : NL = some L := hL0.symm.trans h1
      obtain ⟨A3, c3, rfl, hc1, hc2, r3, a3⟩ := own_row o3
      have B4 := hide (below_then B3.out B3.out.size b3)
      have bc4 := bc.then b3
      have Q4 := hide (HQ.out b _ _ Q3.out b3)
      have d0 := bc4.cell 0
      have d1 := bc4.cell 1
      have HH := hide (show Handed g bw bh A3 L w3 from ⟨HT.out.below B4.out, hgl.out.then B4.out, r3, fun ad e => by
        obtain ⟨g3, rfl, _⟩ := a3 ad e
        exact ⟨g3, rfl⟩⟩)
      clear b3 bc h1 hL0 o3 r3 a3
      by_cases hm : L.length = m
      · have HAn := hide (HA.out A3 c3 L b w3 hm HH.out Q4.out)
        have hE : Hid (askT bw bh k m (some L) = some (doN deskD bw bh k L)) := if_pos hm
        obtain ⟨r, hr⟩ : ∃ r, doN deskD bw bh k L = r := ⟨_, rfl⟩
        rw [hr] at HAn hE
        clear hr
        have hme : ((L.length : Int) == (m : Int)) = true := by rw [beq_iff_eq]; omega
        have hmi : (L.length : Int) = (m : Int) := by omega
        clear HA hm
        go_wp2_with fail
        refine HAn.out.mono ?_
        rintro e w5 ⟨t5, rfl, g5, hn5, hs5⟩
        cases r with
        | none =>
          go_wp2_with fail
          go_ret2
          rw [hE.out]
          exact ⟨gb_trans (gb_below B4.out _) g5, fun e => (by cases e), fun _ => ⟨rfl, hn5 (by simp)⟩, fun x e => (by cases e)⟩
        | some x =>
          obtain ⟨rfl, hb5⟩ := hs5 x rfl
          go_wp2_with fail
          go_ret2
          rw [hE.out]
          exact ⟨gb_trans (gb_below B4.out _) g5, fun e => (by cases e), fun e => (by cases e), fun y e => by injection e with e; injection e with e; subst e; exact ⟨rfl, hb5⟩⟩
      · have hE : Hid (askT bw bh k m (some L) = some none) := if_neg hm
        have hme : ((L.length : Int) == (m : Int)) = false := by rw [beq_eq_false_iff_ne]; omega
        have hmi : ¬ (L.length : Int) = (m : Int) := by omega
        clear HA hm
        go_wp2_with fail
        go_ret2
        rw [hE.out]
        exact ⟨gb_below B4.out _, fun e => (by cases e), fun _ => ⟨rfl, hgl.out.then B4.out⟩, fun x e => (by cases e)⟩
  · refine (HN.out _ _ _ (by first | rfl | omega | (simp_all; done)) _ (B2.out.alloc B2.out.size _) (R2.out.alloc _)).mono ?_
    have B3 := hide (B2.out.alloc B2.out.size (.cells #[.int .i64 m, .func (.func F) #[] #[.pointer (some ⟨b, 0, none⟩)]] 77))
    have bc := Box.new w2 77 #[.int .i64 m, .func (.func F) #[] #[.pointer (some ⟨b, 0, none⟩)]]
    have Q3 := hide (HQ.out b _ _ Q2.out ((Below.refl _ _).alloc (Nat.le_refl _) (.cells #[.int .i64 m, .func (.func F) #[] #[.pointer (some ⟨b, 0, none⟩)]] 77)))
    clear HN R2 B2 Q2
    rintro e w3 (⟨h1, rfl, b3⟩ | ⟨L, v3, h1, rfl, o3, b3⟩)
    · obtain rfl : NL = none := hL0.symm.trans h1
      have B4 := hide (below_then B3.out B3.out.size b3)
      clear b3 bc h1 hL0
      go_wp2_with fail
      go_ret2
      exact ⟨gb_below B4.out _, fun e => (by cases e), fun _ => ⟨rfl, hgl.out.then B4.out⟩, fun x e => (by cases e)⟩
    · obtain rfl : NL = some L := hL0.symm.trans h1
      obtain ⟨A3, c3, rfl, hc1, hc2, r3, a3⟩ := own_row o3
      have B4 := hide (below_then B3.out B3.out.size b3)
      have bc4 := bc.then b3
      have Q4 := hide (HQ.out b _ _ Q3.out b3)
      have d0 := bc4.cell 0
      have d1 := bc4.cell 1
      have HH := hide (show Handed g bw bh A3 L w3 from ⟨HT.out.below B4.out, hgl.out.then B4.out, r3, fun ad e => by
        obtain ⟨g3, rfl, _⟩ := a3 ad e
        exact ⟨g3, rfl⟩⟩)
      clear b3 bc h1 hL0 o3 r3 a3
      by_cases hm : L.length = m
      · have HAn := hide (HA.out A3 c3 L b w3 hm HH.out Q4.out)
        have hE : Hid (askT bw bh k m (some L) = some (doN deskD bw bh k L)) := if_pos hm
        obtain ⟨r, hr⟩ : ∃ r, doN deskD bw bh k L = r := ⟨_, rfl⟩
        rw [hr] at HAn hE
        clear hr
        have hme : ((L.length : Int) == (m : Int)) = true := by rw [beq_iff_eq]; omega
        have hmi : (L.length : Int) = (m : Int) := by omega
        clear HA hm
        go_wp2_with fail
        refine HAn.out.mono ?_
        rintro e w5 ⟨t5, rfl, g5, hn5, hs5⟩
        cases r with
        | none =>
          go_wp2_with fail
          go_ret2
          rw [hE.out]
          exact ⟨gb_trans (gb_below B4.out _) g5, fun e => (by cases e), fun _ => ⟨rfl, hn5 (by simp)⟩, fun x e => (by cases e)⟩
        | some x =>
          obtain ⟨rfl, hb5⟩ := hs5 x rfl
          go_wp2_with fail
          go_ret2
          rw [hE.out]
          exact ⟨gb_trans (gb_below B4.out _) g5, fun e => (by cases e), fun e => (by cases e), fun y e => by injection e with e; injection e with e; subst e; exact ⟨rfl, hb5⟩⟩
      · have hE : Hid (askT bw bh k m (some L) = some none) := if_neg hm
        have hme : ((L.length : Int) == (m : Int)) = false := by rw [beq_eq_false_iff_ne]; omega
        have hmi : ¬ (L.length : Int) = (m : Int) := by omega
        clear HA hm
        go_wp2_with fail
        go_ret2
        rw [hE.out]
        exact ⟨gb_below B4.out _, fun e => (by cases e), fun _ => ⟨rfl, hgl.out.then B4.out⟩, fun x e => (by cases e)⟩
theorem cmd_board {k : ByteArray} {W : World} {v : Value} (h : Cmd k W v) (hk : k.toList = kBoard) : v = .func (.func 57) #[] #[] := by
  unfold Cmd at h
  rw [hk] at h
  rcases h with h | h | h | h | h | h
  all_goals first | exact h.2 | exact absurd h.1 (by decide)
theorem cmd_tile {k : ByteArray} {W : World} {v : Value} (h : Cmd k W v) (hk : k.toList = kTile) : v = .func (.func 58) #[] #[] := by
  unfold Cmd at h
  rw [hk] at h
  rcases h with h | h | h | h | h | h
  all_goals first | exact h.2 | exact absurd h.1 (by decide)
theorem cmd_fold {k : ByteArray} {W : World} {v : Value} (h : Cmd k W v) (hk : k.toList = kFold) : v = .func (.func 62) #[] #[] := by
  unfold Cmd at h
  rw [hk] at h
  rcases h with h | h | h | h | h | h
  all_goals first | exact h.2 | exact absurd h.1 (by decide)
theorem cmd_dark {k : ByteArray} {W : World} {v : Value} (h : Cmd k W v) (hk : k.toList = kDark) : ∃ b, v = .func (.func 79) #[] #[.pointer (some ⟨b, 0, none⟩)] ∧ W.cell? ⟨b, 0, none⟩ = some (.func (.func 60) #[] #[]) := by
  unfold Cmd at h
  rw [hk] at h
  rcases h with h | h | h | h | h | h
  all_goals first | exact h.2 | exact absurd h.1 (by decide)
theorem cmd_pegs {k : ByteArray} {W : World} {v : Value} (h : Cmd k W v) (hk : k.toList = kPegs) : ∃ b, v = .func (.func 79) #[] #[.pointer (some ⟨b, 0, none⟩)] ∧ W.cell? ⟨b, 0, none⟩ = some (.func (.func 61) #[] #[]) := by
  unfold Cmd at h
  rw [hk] at h
  rcases h with h | h | h | h | h | h
  all_goals first | exact h.2 | exact absurd h.1 (by decide)
theorem cmd_piece {k : ByteArray} {W : World} {v : Value} (h : Cmd k W v) (hn : k.toList ≠ kBoard ∧ k.toList ≠ kTile ∧ k.toList ≠ kDark ∧ k.toList ≠ kPegs ∧ k.toList ≠ kFold) : ∃ b, v = .func (.func 91) #[] #[.pointer (some ⟨b, 0, none⟩)] ∧ W.cell? ⟨b, 0, none⟩ = some (.string k) := by
  unfold Cmd at h
  rcases h with h | h | h | h | h | h
  · exact absurd h.1 hn.1
  · exact absurd h.1 hn.2.1
  · exact absurd h.1 hn.2.2.1
  · exact absurd h.1 hn.2.2.2.1
  · exact absurd h.1 hn.2.2.2.2
  · exact h.2.2
theorem cell_then {v : Value} : ∀ (b : Nat) (W W' : World), W.cell? ⟨b, 0, none⟩ = some v → Below W.heap.size W W' → W'.cell? ⟨b, 0, none⟩ = some v := fun b W W' h hb => (hb.cell (cell_lt h)).trans h
theorem ask_c (g : Nat) (bw bh : Int) (hB : Brd bw bh) (line : ByteArray) (hs : line.size ≤ 1073741824) (w : World) (hT : TabZ w) (hg : Box w g 40 #[.int .i64 bw, .int .i64 bh]) :
    Calls Tryz.prog 23 #[.pointer (some ⟨g, 0, none⟩), .string line] w (Asked (askN deskD bw bh (splitB line 32)) bw bh line g w) := by
  obtain ⟨k, rest, hW⟩ := split_cons line
  have hA : askN deskD bw bh (splitB line 32) = if knownB k.toList = true then askT bw bh k (needN k.toList) (numsTo rest rest.length) else none := by
    rw [hW]
    rfl
  cases hk : knownB k.toList with
  | false =>
    rw [hA, if_neg (by rw [hk]; decide)]
    exact ask_what g bw bh line hs w hT hg (by rw [hW]; exact hk)
  | true =>
    rw [hA, if_pos hk]
    by_cases k1 : k.toList = kBoard
    · exact ask_go0 57 (enters_of Tryz.func57 (by kernel_rfl) rfl) (fun _ _ => True) (fun _ _ _ _ _ => trivial) g bw bh line k rest hW hs w hT hg
        (fun w5 => (commandOf_board k w5 k1).mono fun e w' ⟨v, he, hc, hb⟩ => ⟨0, by rw [he, cmd_board hc k1], trivial, hb⟩)
        (fun A c L b w5 hL h _ => ans_board k1 hL h c)
    by_cases k2 : k.toList = kTile
    · exact ask_go0 58 (enters_of Tryz.func58 (by kernel_rfl) rfl) (fun _ _ => True) (fun _ _ _ _ _ => trivial) g bw bh line k rest hW hs w hT hg
        (fun w5 => (commandOf_tile k w5 k2).mono fun e w' ⟨v, he, hc, hb⟩ => ⟨0, by rw [he, cmd_tile hc k2], trivial, hb⟩)
        (fun A c L b w5 hL h _ => ans_tile k2 h c)
    by_cases k3 : k.toList = kDark
    · exact ask_go1 79 (enters_of Tryz.func79 (by kernel_rfl) rfl) (fun b W => W.cell? ⟨b, 0, none⟩ = some (.func (.func 60) #[] #[])) cell_then g bw bh line k rest hW hs w hT hg
        (fun w5 => (commandOf_dark k w5 k3).mono fun e w' ⟨v, he, hc, hb⟩ => let ⟨b, hv, hcl⟩ := cmd_dark hc k3; ⟨b, by rw [he, hv], hcl, hb⟩)
        (fun A c L b w5 hL h hb => ans_dark k3 hL h c b hb)
    by_cases k4 : k.toList = kPegs
    · exact ask_go1 79 (enters_of Tryz.func79 (by kernel_rfl) rfl) (fun b W => W.cell? ⟨b, 0, none⟩ = some (.func (.func 61) #[] #[])) cell_then g bw bh line k rest hW hs w hT hg
        (fun w5 => (commandOf_pegs k w5 k4).mono fun e w' ⟨v, he, hc, hb⟩ => let ⟨b, hv, hcl⟩ := cmd_pegs hc k4; ⟨b, by rw [he, hv], hcl, hb⟩)
        (fun A c L b w5 hL h hb => ans_pegs k4 hL h c b hb)
    by_cases k5 : k.toList = kFold
    · exact ask_go0 62 (enters_of Tryz.func62 (by kernel_rfl) rfl) (fun _ _ => True) (fun _ _ _ _ _ => trivial) g bw bh line k rest hW hs w hT hg
        (fun w5 => (commandOf_fold k w5 k5).mono fun e w' ⟨v, he, hc, hb⟩ => ⟨0, by rw [he, cmd_fold hc k5], trivial, hb⟩)
        (fun A c L b w5 hL h _ => ans_fold hB k5 h c)
    have hn : k.toList ≠ kBoard ∧ k.toList ≠ kTile ∧ k.toList ≠ kDark ∧ k.toList ≠ kPegs ∧ k.toList ≠ kFold := ⟨k1, k2, k3, k4, k5⟩
    have hp : pieceB k.toList = true := by
      unfold knownB at hk
      simp only [Bool.or_eq_true, beq_iff_eq] at hk
      rcases hk with ((((h | h) | h) | h) | h) | h
      · exact absurd h k1
      · exact absurd h k2
      · exact absurd h k3
      · exact absurd h k4
      · exact absurd h k5
      · exact h
    exact ask_go1 91 (enters_of Tryz.func91 (by kernel_rfl) rfl) (fun b W => W.cell? ⟨b, 0, none⟩ = some (.string k)) cell_then g bw bh line k rest hW hs w hT hg
      (fun w5 => (commandOf_piece k w5 hp hn).mono fun e w' ⟨v, he, hc, hb⟩ => let ⟨b, hv, hcl⟩ := cmd_piece hc hn; ⟨b, by rw [he, hv], hcl, hb⟩)
      (fun A c L b w5 hL h hb => ans_piece hB hn hL h c b hb)
end Go.Proofs.YtmfdlijkpdgimaaGreatDoor

/-
  The desk of the program: reply.
-/
namespace Go.Proofs.YtmfdlijkpdgimaaGreatDoor
open Go.RowKit
set_option linter.unusedVariables false

/-- What is said to a line, and the board behind it. -/
def Replied (r : ByteArray × Int × Int) (g : Nat) (w : World) (e : Ending) (w' : World) : Prop := e = .returned (.string r.1) ∧ w.grownBy w' (some g) ∧ Box w' g 40 #[.int .i64 r.2.1, .int .i64 r.2.2]
theorem gb_alloc {a w : World} {row : Option Nat} (h : a.grownBy w row) (o : Obj) : a.grownBy (w.alloc o) row := gb_trans h (gb_below ((Below.refl _ _).alloc (Nat.le_refl _) o) _)
set_option maxHeartbeats 4000000 in
theorem reply_c (g : Nat) (bw bh : Int) (hB : Brd bw bh) (line : ByteArray) (hs : line.size ≤ 1073741824) (w : World) (hT : TabZ w) (h10 : 10 ≤ g) (hg : Box w g 40 #[.int .i64 bw, .int .i64 bh]) :
    Calls Tryz.prog 19 #[.pointer (some ⟨g, 0, none⟩), .string line] w (Replied (sayN bw bh (askN deskD bw bh (splitB line 32))) g w) := by
  have HA := hide (ask_c g bw bh hB line hs w hT hg)
  generalize askN deskD bw bh (splitB line 32) = r at *
  have HT := hide (fun w' (h : w.grownBy w' (some g)) => (hT.grown h h10).et)
  clear hT hg hs hB
  match r with
  | none =>
    go_enter Tryz.func19, Tryz.ntmps19
    go_wp2_with fail
    refine HA.out.mono ?_
    rintro e w1 ⟨g1, h1, h2, h3⟩
    obtain ⟨⟨x, rfl⟩, hb1⟩ := h1 rfl
    have g2 := gb_alloc g1 (.cells #[.string ⟨#[]⟩] 58)
    have HX := hide (as_miss x ⟨w1.heap.size, 0, none⟩ (w1.alloc (.cells #[.string ⟨#[]⟩] 58)) (HT.out _ g2))
    have hbx := hide (hb1.alloc (.cells #[.string ⟨#[]⟩] 58))
    have G2 := hide g2
    clear h1 h2 h3 hb1 g1 g2 HA HT
    go_wp2_with fail
    refine HX.out.mono ?_
    rintro e w3 ⟨rfl, hw3⟩
    have B3 : Below (w1.alloc (.cells #[.string ⟨#[]⟩] 58)).heap.size (w1.alloc (.cells #[.string ⟨#[]⟩] 58)) w3 := by
      rw [hw3]
      exact (((Below.refl _ _).alloc (Nat.le_refl _) _).alloc (by simp) _).alloc (by simp) _
    have B3 := hide B3
    clear hw3
    go_wp2_with fail
    go_ret
    exact ⟨rfl, gb_trans G2.out (gb_below B3.out _), hbx.out.then B3.out⟩
  | some none =>
    go_enter Tryz.func19, Tryz.ntmps19
    go_wp2_with fail
    refine HA.out.mono ?_
    rintro e w1 ⟨g1, h1, h2, h3⟩
    obtain ⟨rfl, hb1⟩ := h2 rfl
    have g2 := gb_alloc g1 (.cells #[.string ⟨#[]⟩] 58)
    have bw1 := Box.new w1 58 #[.string ⟨#[]⟩]
    have HX := hide (as_hit line ⟨w1.heap.size, 0, none⟩ (.string ⟨#[]⟩) (w1.alloc (.cells #[.string ⟨#[]⟩] 58)) (HT.out _ g2) (bw1.cell 0) (bw1.free 0))
    have hbx := hide (hb1.alloc (.cells #[.string ⟨#[]⟩] 58))
    have hne : w1.heap.size ≠ g := Nat.ne_of_gt hb1.in_
    have hle : w.heap.size ≤ w1.heap.size := g1.size
    have G2 := hide g2
    have G1 := hide g1
    clear h1 h2 h3 bw1 g1 g2 HA HT
    go_wp2_with fail
    refine HX.out.mono ?_
    rintro e w3 ⟨rfl, hw3⟩
    have B3 : Below w1.heap.size w1 w3 := by
      rw [hw3]
      exact ((((((Below.refl _ _).alloc (Nat.le_refl _) _).alloc (by simp) _).alloc (by simp; omega) _).alloc (by simp; omega) _).alloc (by simp; omega) _).setCell (Nat.le_refl _) _
    have B3 := hide B3
    have HB := hide hb1
    clear hw3 hb1
    go_wp2_with fail
    go_ret
    exact ⟨rfl, gb_trans G1.out (gb_below B3.out _), HB.out.then B3.out⟩
  | some (some x) =>
    go_enter Tryz.func19, Tryz.ntmps19
    go_wp2_with fail
    refine HA.out.mono ?_
    rintro e w1 ⟨g1, h1, h2, h3⟩
    obtain ⟨rfl, hb1⟩ := h3 x rfl
    have HX := hide (fun t w5 => as_nil t w5)
    have hbx := hide (hb1.alloc (.cells #[.string ⟨#[]⟩] 58))
    have G2 := hide (gb_alloc g1 (.cells #[.string ⟨#[]⟩] 58))
    clear h1 h2 h3 hb1 g1 HA HT
    go_wp2_with fail
    refine (HX.out _ _).mono ?_
    rintro e w3 ⟨rfl, rfl⟩
    go_wp2_with fail
    go_ret
    exact ⟨rfl, G2.out, hbx.out⟩
end Go.Proofs.YtmfdlijkpdgimaaGreatDoor
