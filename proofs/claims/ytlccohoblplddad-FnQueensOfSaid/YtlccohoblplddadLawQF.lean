
/-
  The walk of the law FnQueensOf.
-/
import Derived.Test.YtlccohoblplddadPCollect
import Derived.Test.YtlccohoblplddadPQueenB
import Derived.Test.YtlccohoblplddadDrawQ
import Derived.Test.YtlccohoblplddadCodeWords
import Derived.Test.YtlccohoblplddadSeatB
import Derived.Test.YtlccohoblplddadLawWQ
import Derived.Test.YtlccohoblplddadExQueenB
import Derived.Deep.RegionHeld3
namespace Go.Proofs.Ytlccohoblplddad
open Go.RowKit
set_option linter.unusedVariables false

def ascL (L : List (List Int)) : Bool := (List.range L.length).all fun i => i == 0 || lessP (L[i - 1]?.getD []) (L[i]?.getD [])
theorem queens_more : ∀ n : Fin 7, 1 ≤ n.val → (queensP n.val n.val []).all (fun x => (queensP n.val n.val []).contains x.reverse && decide (Can n.val x)) = true ∧ ascL (queensP n.val n.val []) = true := by decide +kernel
theorem queens_all {n : Int} (h : 1 ≤ n ∧ n ≤ 6) : (∀ x ∈ queensOfP n, x.reverse ∈ queensOfP n ∧ Can n x ∧ (x.length : Int) = n) ∧ ∀ i, i < (queensOfP n).length → 0 < i → lessP ((queensOfP n)[i - 1]?.getD []) ((queensOfP n)[i]?.getD []) = true := by
  obtain ⟨k, rfl⟩ := Int.eq_ofNat_of_zero_le (show 0 ≤ n by omega)
  have e : queensOfP (k : Int) = queensP k k [] := by unfold queensOfP; rw [if_pos h]; rfl
  rw [e]
  obtain ⟨h1, h2⟩ := queens_more ⟨k, by omega⟩ (by show 1 ≤ k; omega)
  refine ⟨fun x hx => ?_, fun i hi h0 => ?_⟩
  · have := List.all_eq_true.1 h1 x hx
    rw [Bool.and_eq_true, decide_eq_true_eq, List.contains_eq_mem, decide_eq_true_eq] at this
    exact ⟨this.1, this.2, by have := queens_rows k k [] x hx; simp at this; omega⟩
  · have := List.all_eq_true.1 h2 i (List.mem_range.2 hi)
    rw [Bool.or_eq_true, beq_iff_eq] at this
    rcases this with h | h
    · omega
    · exact h
/-- Whether it is among the first k. -/
def foundTo (L : List (List Int)) (b : List Int) (k : Nat) : Bool := (L.take k).contains b
theorem foundTo_succ (L : List (List Int)) (b : List Int) (k : Nat) (hk : k < L.length) : foundTo L b (k + 1) = (foundTo L b k || decide (L[k]?.getD [] = b)) := by
  unfold foundTo
  rw [List.take_succ_eq_append_getElem hk, List.getElem?_eq_getElem hk, Option.getD_some]
  simp only [List.contains_eq_mem, List.mem_append, List.mem_singleton]
  rw [Bool.decide_or]
  congr 1
  exact decide_eq_decide.2 ⟨fun h => h.symm, fun h => h.symm⟩

/-- A quiet walk hidden: its goal is then not laid open by the elaborator, which would run through all operations that are not wanted. -/
theorem quiet_more {P : Program} {ops : Array Oper} {C : World → Prop} {Q : Act → Prop} {a : Act} {o : Oper} {rest : List Oper}
    (h : ∀ K : Act → Prop, (∀ a, wpQuiet P ops C Q rest a → K a) → if Region.wanted o (yielded ops a.tmps) then o.quiet P a C K else K (a.put o.dst undef)) : wpQuiet P ops C Q (o :: rest) a ∧ True :=
  ⟨wpQuiet_step h, trivial⟩
theorem quiet_on {R K : Act → Prop} {a : Act} (hK : ∀ a, R a → K a) (h : R a ∧ True) : K a := hK a h.1

set_option maxHeartbeats 2000000 in
set_option maxRecDepth 100000 in
theorem queensOf_w (A : Option Addr) (n c : Nat) (w : World) (h : Code w A n c) : Calls Try.prog 3 #[.slice A n c] w (Plain (.bool true) w) := by
  by_cases hl : 1048576 < (n : Int)
  · go_enter Try.func3, Try.ntmps3
    go_wp2
    go_ret
    exact ⟨rfl, Below.refl _ _⟩
  · have HC := hide (drawQueensOf_c A n c w h)
    clear h
    go_enter Try.func3, Try.ntmps3
    go_wp2_with fail
    refine HC.out.mono ?_
    rintro e w1 ⟨k, rfl, ⟨k0, k7⟩, b1⟩
    have HS := hide (fun w5 => specQueensOf_c k w5)
    have HI := hide (fun w5 => implQueensOf_c k w5)
    have HCN := hide (fun w5 => implCountQueens_c k w5)
    obtain ⟨hLl, hx⟩ := queensOfP_bd k
    have HEQ := hide (fun A C vs us B B' ca cc w5 h1 h2 h3 h4 => equalRows_q A C vs us (queensOfP k) B B' ca cc w5 h1 h2 h3 h4 (by omega) (fun x hx' => by have := hx x hx'; omega))
    by_cases hemp : queensOfP k = []
    · rw [hemp] at HS HI HEQ
      clear hemp hx hLl HCN
      go_wp2_with fail
      refine (HI.out _).mono ?_
      rintro e w2 ⟨v2, vs2, rfl, own2, rs2, _, b2⟩
      obtain rfl : vs2 = [] := List.eq_nil_of_length_eq_zero rs2.1
      obtain ⟨A2, c2, rfl, _⟩ := own_row own2
      have bw2 := below_then b1 b1.size b2
      clear own2 rs2 b2
      go_wp2_with fail
      refine (HS.out _).mono ?_
      rintro e w3 ⟨v3, vs3, rfl, own3, rs3, b3⟩
      obtain rfl : vs3 = [] := List.eq_nil_of_length_eq_zero rs3.1
      obtain ⟨A3, c3, rfl, _⟩ := own_row own3
      have bw3 := below_then bw2 bw2.size b3
      clear own3 rs3 b3
      go_wp2_with fail
      refine (HEQ.out A2 A3 [] [] 0 0 c2 c3 w3 (Row.empty _ _) (Row.empty _ _) (Reads.nil _ _) (Reads.nil _ _)).mono ?_
      rintro e w4 ⟨rfl, m4, rfl⟩
      have bw4 := below_drewN bw3 m4
      go_wp2_with fail
      refine (HS.out _).mono ?_
      rintro e w5 ⟨v5, vs5, rfl, own5, rs5, b5⟩
      obtain rfl : vs5 = [] := List.eq_nil_of_length_eq_zero rs5.1
      obtain ⟨A5, c5, rfl, _⟩ := own_row own5
      have bw5 := below_then bw4 bw4.size b5
      clear own5 rs5 b5
      go_wp2_with fail
      refine (HEQ.out A2 A5 [] [] 0 0 c2 c5 w5 (Row.empty _ _) (Row.empty _ _) (Reads.nil _ _) (Reads.nil _ _)).mono ?_
      rintro e w6 ⟨rfl, m6, rfl⟩
      have bw6 := below_drewN bw5 m6
      go_wp2_with fail
      go_ret
      exact ⟨rfl, bw6⟩
    · have hk : 1 ≤ k ∧ k ≤ 6 := by
        by_cases h : 1 ≤ k ∧ k ≤ 6
        · exact h
        · exact absurd (by unfold queensOfP; rw [if_neg h]) hemp
      obtain ⟨hall, hasc⟩ := queens_all hk
      have hcq : ((queensOfP k).length : Int) = countP k := by
        unfold queensOfP countP
        rw [if_pos hk, if_pos hk]
      have hlen : 0 < (queensOfP k).length := List.length_pos_iff.2 hemp
      have HX := hide hx
      have HALL := hide hall
      have HASC := hide hasc
      obtain ⟨hk1, hk6⟩ := hk
      clear hemp hx hall hasc
      generalize queensOfP k = L at *
      have hz0 : ((L.length : Int) == 0) = false := by rw [beq_eq_false_iff_ne]; omega
      rw [← hcq] at HCN
      have hll : ((L.length : Int) == (L.length : Int)) = true := by simp
      clear hcq
      go_wp2_with fail
      refine (HI.out _).mono ?_
      rintro e w2 ⟨v2, vs2, rfl, own2, rs2, _, b2⟩
      have hl2 : vs2.length = L.length := rs2.1
      rw [hl2] at own2
      obtain ⟨A2, c2, rfl, _⟩ := own_row own2
      have bw2 := below_then b1 b1.size b2
      have RV := hide (fun (i : Nat) (hi : i < L.length) (w5 : World) (b5 : Below w2.heap.size w2 w5) => ((own_reads own2).below b5).at_ (k := i) (by rw [hl2]; exact hi))
      have RR := hide (fun (i : Nat) (hi : i < L.length) => show ∃ A c, vs2[i]?.getD undef = .slice A (L[i]?.getD []).length c ∧ (L[i]?.getD []).length ≤ c ∧ c ≤ maxLen ∧ ∀ w5, Below w2.heap.size w2 w5 → Row w5 A (ints (L[i]?.getD [])) by
        obtain ⟨A', c', e, ho⟩ := rs2.2 i hi
        rw [List.getElem?_eq_getElem hi]
        obtain ⟨A'', c'', he, n3, m3, r3, _⟩ := own_row ho
        injection he with h1 h2 h3
        subst h1; subst h3
        exact ⟨A', c', by rw [e]; rfl, n3, m3, fun w5 b5 => r3.below b5⟩)
      have RW2 := hide (fun (w5 : World) (b5 : Below w2.heap.size w2 w5) => show Row w5 A2 vs2 ∧ Reads w5 w1.heap.size vs2 L from ⟨(own_reads own2).below b5, rs2.reads.below b5⟩)
      clear own2 rs2 b2 hl2
      go_wp2_with fail
      refine (HS.out _).mono ?_
      rintro e w3 ⟨v3, vs3, rfl, own3, rs3, b3⟩
      have hl3 : vs3.length = L.length := rs3.1
      rw [hl3] at own3
      obtain ⟨A3, c3, rfl, _⟩ := own_row own3
      obtain ⟨r2, q2⟩ := RW2.out _ b3
      have HE := hide (HEQ.out A2 A3 vs2 vs3 w1.heap.size w2.heap.size c2 c3 w3 r2 (own_reads own3) q2 rs3)
      have B23 := hide b3
      clear own3 rs3 b3 hl3 r2 q2
      go_wp2_with fail
      refine HE.out.mono ?_
      rintro e w4 ⟨rfl, m4, rfl⟩
      have b24 := below_drewN B23.out m4
      go_wp2_with fail
      go_loopw [5] (fun i wr => ∃ q : Nat, q ≤ L.length ∧ i = .int .i64 (q : Int) ∧ Below w2.heap.size w2 wr) (fun i _ => L.length - (intOf i).toNat)
      case atStart => exact ⟨0, Nat.zero_le _, rfl, b24⟩
      case round =>
        obtain ⟨q, hq, rfl, hb⟩ := hrel
        obtain ⟨wo, rfl⟩ : ∃ wo : World, wo = wr := ⟨_, rfl⟩
        by_cases hlt : q < L.length
        · obtain ⟨Aq, cq, eq, nq, mq, rowq⟩ := RR.out q hlt
          obtain ⟨ad, rfl, hca⟩ := RV.out q hlt wo hb
          rw [eq] at hca
          have hxm : L[q]?.getD [] ∈ L := by rw [List.getElem?_eq_getElem hlt]; exact List.getElem_mem hlt
          obtain ⟨hrev, hcan, hxl⟩ := HALL.out _ hxm
          have hx6 := HX.out _ hxm
          have HCS := hide (fun (w5 : World) (h5 : Row w5 Aq (ints (L[q]?.getD []))) => implCanStand_c k Aq cq (L[q]?.getD []) w5 h5 (by omega) nq mq)
          rw [decide_eq_true hcan] at HCS
          have HBK := hide (backwards_c Aq cq (L[q]?.getD []) wo (rowq wo hb) (by omega))
          have HFA : Hid (foundTo L (L[q]?.getD []).reverse L.length = true) := by
            show _ = _
            unfold foundTo
            rw [List.take_of_length_le (Nat.le_refl _), List.contains_eq_mem, decide_eq_true_eq]; exact hrev
          have HF0 : Hid (foundTo L (L[q]?.getD []).reverse 0 = false) := rfl
          have HFS := hide (fun j hj => foundTo_succ L (L[q]?.getD []).reverse j hj)
          have HLS := hide (fun (h0 : 0 < q) => HASC.out q hlt h0)
          have ROWQ := hide rowq
          have HXL : ((((L[q]?.getD []).length : Nat) : Int) == k) = true := by rw [beq_iff_eq]; exact hxl
          have HXLr : Hid ((L[q]?.getD []).reverse.length = (L[q]?.getD []).length) := hide (by simp)
          have EQV := hide eq
          have HNE : ((((L[q]?.getD []).length : Nat) : Int) != k) = false := by rw [bne_eq_false_iff_eq]; exact hxl
          clear eq hcan rowq hxm hrev hxl nq mq
          have HEI := hide (fun (A' C' : Option Addr) (ys : List Int) (ca cc : Nat) (w5 : World) (h5 : Row w5 A' (ints ys)) (h6 : Row w5 C' (ints (L[q]?.getD []).reverse)) (h7 : ys.length ≤ 6) => show Calls Try.prog 12 #[.slice A' ys.length ca, .slice C' (L[q]?.getD []).length cc] w5 (Plain (.bool (decide (ys = (L[q]?.getD []).reverse))) w5) by
            have := equalInts_c A' C' ys (L[q]?.getD []).reverse ca cc w5 h5 h6 (by simp [maxLen]; omega) (by simp [maxLen]; omega)
            rwa [HXLr.out] at this)
          generalize L[q]?.getD [] = x at *
          clear HXLr
          generalize x.reverse = bk at *
          have q0 : (0 : Int) ≤ (q : Int) := by omega
          have q1 : (q : Int) < (L.length : Int) := by omega
          go_wp2_with fail
          refine HBK.out.mono ?_
          rintro e w5 ⟨v5, rfl, o5, b5⟩
          obtain ⟨A5, c5, rfl, _⟩ := own_row o5
          have b25 := below_then hb hb.size b5
          have R5 := hide (fun (w6 : World) (b6 : Below w5.heap.size w5 w6) => (own_reads o5).below b6)
          clear o5 b5 HBK hca
          go_wp2_with fail
          go_loopw [6, 8] (fun f i wi => ∃ j : Nat, j ≤ L.length ∧ i = .int .i64 (j : Int) ∧ f = .bool (foundTo L bk j) ∧ Below w5.heap.size w5 wi) (fun _ i _ => L.length - (intOf i).toNat)
          case atStart => exact ⟨0, Nat.zero_le _, rfl, by rw [HF0.out], Below.refl _ _⟩
          case round =>
            obtain ⟨j, hj, rfl, rfl, hbi⟩ := hrel
            obtain ⟨wi, rfl⟩ : ∃ wi : World, wi = wr := ⟨_, rfl⟩
            have b2i := below_then b25 b25.size hbi
            by_cases hjl : j < L.length
            · obtain ⟨Aj, cj, ej, _, _, rowj⟩ := RR.out j hjl
              obtain ⟨ad', ead, hcj⟩ := RV.out j hjl wi b2i
              injection ead with ead
              subst ead
              rw [ej] at hcj
              have hy6 := HX.out (L[j]?.getD []) (by rw [List.getElem?_eq_getElem hjl]; exact List.getElem_mem hjl)
              have HFj := hide (HFS.out j hjl)
              have HEj := hide (HEI.out Aj A5 (L[j]?.getD []) cj c5 wi (rowj wi b2i) (R5.out wi hbi) hy6)
              have j0 : (0 : Int) ≤ (j : Int) := by omega
              have j1 : (j : Int) < (L.length : Int) := by omega
              clear ej rowj
              generalize L[j]?.getD [] = y at *
              cases hf : foundTo L bk j with
              | true =>
                rw [hf] at HFj
                clear hf
                go_wp2_with fail
                exact ⟨⟨j + 1, hjl, by go_num, by rw [HFj.out]; rfl, hbi⟩, by simp [intOf]; omega⟩
              | false =>
                rw [hf] at HFj
                clear hf
                generalize decide (y = bk) = bb at *
                go_wp2_with fail
                refine HEj.out.mono ?_
                rintro e w7 ⟨rfl, b7⟩
                have B7 := hide (below_then hbi hbi.size b7)
                clear b7 hcj
                go_wp2_with fail
                exact ⟨⟨j + 1, hjl, by go_num, by rw [HFj.out]; rfl, B7.out⟩, by simp [intOf]; omega⟩
            · obtain rfl : j = L.length := by omega
              rw [HFA.out]
              obtain ⟨ad', ead, hcq⟩ := RV.out q hlt wi b2i
              injection ead with ead
              subst ead
              have hbid := b2i.drew
              rw [EQV.out] at hcq
              have hcd : wi.drew.cell? (ad.add q) = some (.slice Aq x.length cq) := hcq
              by_cases hq0 : 0 < q
              · obtain ⟨p, hp⟩ : ∃ p, q = p + 1 := ⟨q - 1, by omega⟩
                have hpl : p < L.length := by omega
                obtain ⟨Ap, cp, ep, _, _, rowp⟩ := RR.out p hpl
                obtain ⟨ad', ead, hcp⟩ := RV.out p hpl wi b2i
                injection ead with ead
                subst ead
                rw [ep] at hcp
                have hcpd : wi.drew.cell? (ad.add p) = some (.slice Ap (L[p]?.getD []).length cp) := hcp
                have hlp := HX.out (L[p]?.getD []) (by rw [List.getElem?_eq_getElem hpl]; exact List.getElem_mem hpl)
                have hll' : (L[p]?.getD []).length = x.length := by
                  obtain ⟨_, _, h3⟩ := HALL.out (L[p]?.getD []) (by rw [List.getElem?_eq_getElem hpl]; exact List.getElem_mem hpl)
                  have h4 := beq_iff_eq.1 HXL
                  omega
                have hls := HLS.out hq0
                rw [show q - 1 = p by omega] at hls
                have HLR := hide (fun (w6 : World) (h6 : Row w6 Ap (ints (L[p]?.getD []))) (h7 : Row w6 Aq (ints x)) => show Calls Try.prog 14 #[.slice Ap (L[p]?.getD []).length cp, .slice Aq x.length cq] w6 (Plain (.bool true) w6) by
                  have := lessRow_c Ap Aq (L[p]?.getD []) x cp cq w6 h6 h7 (by omega) hll'
                  rwa [hls] at this)
                have ROWP := hide rowp
                have e1 : IntKind.i64.wrap ((q : Int) - 1) = (p : Int) := by rw [IntWalk.i64_in _ (by omega)]; omega
                have p0 : (0 : Int) ≤ (p : Int) := by omega
                have p1 : (p : Int) < (L.length : Int) := by omega
                have hqi : (0 : Int) < (q : Int) := by omega
                clear ep rowp hls hll' hp
                generalize L[p]?.getD [] = y at *
                go_wp2_with fail
                go_region_held3 (fun w' => w'.cell? (ad.add q) = some (.slice Aq x.length cq) ∧ w'.cell? (ad.add p) = some (.slice Ap y.length cp)) (go_keep)
                  (first
                    | (go_at_call 13; refine (HCS.out _ (ROWQ.out _ hbid)).mono ?_; rintro e w7 ⟨rfl, rfl⟩)
                    | (go_at_call 14; refine (HLR.out _ (ROWP.out _ hbid) (ROWQ.out _ hbid)).mono ?_; rintro e w8 ⟨rfl, b8⟩
                       have hk8 := (b8.cell (World.block_lt_of_cell? _ _ hcd)).trans hcd
                       have hk9 := (b8.cell (World.block_lt_of_cell? _ _ hcpd)).trans hcpd
                       have b28 := below_then hbid hbid.size b8))
                go_wp2_with fail
                exact ⟨⟨q + 1, hlt, by go_num, b28⟩, by simp [intOf]; omega⟩
              · obtain rfl : q = 0 := by omega
                have hcd0 : wi.cell? ad = some (.slice Aq x.length cq) := hcq
                have hl0 : (0 : Int) < (L.length : Int) := by omega
                have HB2 := hide b2i
                clear hcd hcq hq0 hbid
                go_wp2_with fail
                refine wp_region_quiet_lit (by kernel_rfl) (by kernel_rfl) ?_
                refine And.left (b := True) ?_
                repeat (refine quiet_more (fun K hK => ?_); go_simp; refine quiet_on hK ?_; clear hK K)
                refine quiet_more (fun K hK => ?_)
                go_simp
                refine ⟨.bool true, fun nn => ?_, quiet_on hK ?_⟩
                · go_at_call 13
                  have hcs := HCS.out (wi.drewN nn) (ROWQ.out _ (below_drewN HB2.out nn))
                  refine hcs.mono ?_
                  rintro e w7 ⟨h8, h9⟩
                  exact ⟨h8, nn, h9.symm⟩
                clear hK K
                repeat (refine quiet_more (fun K hK => ?_); go_simp; refine quiet_on hK ?_; clear hK K)
                refine ⟨wpQuiet_nil ?_, trivial⟩
                intro _ hw'
                obtain ⟨nq, hw''⟩ := hw'
                subst hw''
                go_wp2_with fail
                exact ⟨⟨1, by omega, by go_num, below_drewN HB2.out _⟩, by simp [intOf]; omega⟩
        · obtain rfl : q = L.length := by omega
          have B := hide (below_then bw2 bw2.size hb)
          go_wp2_with fail
          refine (HCN.out _).mono ?_
          rintro e w5 ⟨rfl, rfl⟩
          go_wp2_with fail
          go_ret
          exact ⟨rfl, B.out⟩
end Go.Proofs.Ytlccohoblplddad
