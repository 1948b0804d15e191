/-
  FnBytes: the law's walk.
-/
import Derived.Test.YtkkammbfomiofaaDoorByk
namespace Go.Proofs.YtkkammbfomiofaaDoor
open Go.RowKit
set_option linter.unusedSimpArgs false
set_option linter.unusedVariables false

set_option maxHeartbeats 8000000 in
set_option maxRecDepth 100000 in
theorem law_bytes (a : Option Addr) (n ca : Nat) (xs : List Int) (w : World) (ha : IRow .u8 w a n xs) (hB : Byt xs) (hn : (n : Int) ≤ 9223372036854775807) :
    Calls Tryd.prog 3 #[.slice a n ca] w fun e w' => e = .returned (.bool true) ∧ Below w.heap.size w w' := by
  by_cases hbig : 1048576 < n
  · go_enter Tryd.func3, Tryd.ntmps3
    go_wp2
    go_ret
    exact ⟨rfl, Below.refl _ _⟩
  have hn2 : n ≤ 2097152 := by omega
  have HA : Hid (IRow .u8 w a n xs) := ha
  have HX : Hid (∀ i, i < n → 0 ≤ xs[i]?.getD 0 ∧ xs[i]?.getD 0 ≤ 255) := fun i hi => hB.at i (by rw [ha.1]; exact hi)
  clear ha hB
  go_enter Tryd.func3, Tryd.ntmps3
  go_wp2_with fail
  refine (drawInode_any _ _ _ xs _ HA.out HX.out hn2).mono ?_
  rintro e w1 ⟨nm, z, la, ln, lc, cs, rfl, hnm, hln, row1, hb1⟩
  have HB1 : Hid (Below w.heap.size w w1) := hb1
  have z1 := hb1.size
  have R1 := Hid.out (fun o : Obj => (row1.below ((Below.refl _ w1).alloc (Nat.le_refl _) o)))
  have hlen : cs.length = ln := row1.1
  have HLN : Hid (cs.length = ln) := hlen
  clear hb1 row1 hlen
  go_wp2_with fail
  refine (encodeInode_fix nm z _ _ _ cs _ (R1 _).read (by omega) (by omega)).mono ?_
  rintro e w2 ⟨ab, rfl, rb, hb2⟩
  have k2 := (hb2.block w1.heap.size (by simp)).trans (heap_alloc_new w1 _)
  have row2 := (R1 _).below hb2
  have HB2 : Hid (Below w.heap.size w w2) := (HB1.out.alloc HB1.out.size _).trans (hb2.mono (by simp; omega))
  have z2 := (Array.getElem?_eq_some_iff.1 k2).1
  have rb2 : Row .u8 (fun g => w1.heap.size < g ∧ g < w2.heap.size) w2 ab (encI nm z cs).length (encI nm z cs) := rb.mono (fun g hg => by simp at hg; omega)
  obtain ⟨⟨m0, m1, m2⟩, _, _, _⟩ := three_of k2
  clear hb2 rb R1 HB1
  go_wp2_with fail
  refine (encodeInode_spec nm z _ _ _ cs _ row2.read (by omega) (by omega)).mono ?_
  rintro e w3 ⟨s0, rfl, hown0, hb3⟩
  obtain ⟨sa, sc, rfl, r0⟩ := owns_row hown0
  have k3 := (hb3.block w1.heap.size (by omega)).trans k2
  have row3 := row2.below hb3
  have rb3 := rb2.below hb3
  have HB3 : Hid (Below w.heap.size w w3) := HB2.out.trans (hb3.mono HB2.out.size)
  have z3 := (Array.getElem?_eq_some_iff.1 k3).1
  clear hown0 hb3 k2 row2 rb2 HB2 r0 m0 m1 m2
  cases hv : inoB nm z cs
  case' false =>
    have HE : Hid (encI nm z cs = []) := by show _ = _; unfold encI; rw [hv]; rfl
    rw [HE.out, List.length_nil]
    clear HE rb3 hv row3
    go_wp2_with fail
    have HBJ := HB3
    clear HB3 k3 z3 z2 z1
    revert HBJ
    generalize w3 = wj
    intro HBJ
  case' true =>
    have HE : Hid (encI nm z cs = inoL nm z cs) := by show _ = _; unfold encI; rw [hv]; rfl
    have HL : Hid ((inoL nm z cs).length = 64) := inoL_len hv
    rw [HE.out, HL.out] at rb3
    rw [HE.out, HL.out]
    go_wp2_with fail
    refine (inode_back hv _ _ rb3.read).mono ?_
    rintro e w4 ⟨a4, c4, rfl, row4, hb4⟩
    have k4 := (hb4.block w1.heap.size (by omega)).trans k3
    have row4' := row3.below hb4
    have HB4 : Hid (Below w.heap.size w w4) := HB3.out.trans (hb4.mono HB3.out.size)
    rw [HLN.out] at row4 ⊢
    clear hb4 HE HL rb3 row3 hv k3 HB3
    have z4 := (Array.getElem?_eq_some_iff.1 k4).1
    have kx : ∀ o, (w4.alloc o).heap[w1.heap.size]? = some (.cells #[.string nm, .int .i64 z, .slice la ln lc] 25 (0, 0)) := fun o => (heap_alloc_old w4 o (by omega)).trans k4
    have x0 : ∀ o, (w4.alloc o).cell? ⟨w1.heap.size, 0, none⟩ = some (.string nm) := fun o => (three_of (kx o)).1.1
    have x1 : ∀ o, (w4.alloc o).cell? ⟨w1.heap.size, 1, none⟩ = some (.int .i64 z) := fun o => (three_of (kx o)).1.2.1
    have x2 : ∀ o, (w4.alloc o).cell? ⟨w1.heap.size, 2, none⟩ = some (.slice la ln lc) := fun o => (three_of (kx o)).1.2.2
    have hla : ∀ o, Below w4.heap.size w4 (w4.alloc o) := fun o => (Below.refl _ w4).alloc (Nat.le_refl _) o
    have RA := Hid.out (fun o : Obj => (row4.below (hla o)).read)
    have RB := Hid.out (fun o : Obj => (row4'.below (hla o)).read)
    have HBA := Hid.out (fun o : Obj => HB4.out.alloc HB4.out.size o)
    clear kx hla row4 row4' HB4
    go_wp2_with fail
    go_loopw [6] (fun i wr => ∃ k : Nat, k ≤ ln ∧ i = .int .i64 k ∧ ∃ d, wr = (w4.alloc (.cells #[.bool true, .string nm, .int .i64 z, .slice a4 ln c4] 29)).drewN d) (fun i _ => ln - (intOf i).toNat)
    case atStart => exact ⟨0, Nat.zero_le _, rfl, 0, rfl⟩
    case' round =>
      obtain ⟨k, hk, rfl, d, rfl⟩ := hrel
      by_cases hlt : k < ln
      case pos =>
        obtain ⟨g1, o1, rfl, hc1⟩ := (RA (.cells #[.bool true, .string nm, .int .i64 z, .slice a4 ln c4] 29)).2.resolve_left (by omega)
        obtain ⟨g2, o2, rfl, hc2⟩ := (RB (.cells #[.bool true, .string nm, .int .i64 z, .slice (some ⟨g1, o1, none⟩) ln c4] 29)).2.resolve_left (by omega)
        have c1 := hc1 k hlt
        have c2 := hc2 k hlt
        have hlt' : (k : Int) < (ln : Int) := by omega
        have h0' : (0 : Int) ≤ (k : Int) := by omega
        have hx2 : (cs[k]?.getD 0 != cs[k]?.getD 0) = false := by simp
        clear hc1 hc2
        go_wp2
        go_quiet (fail)
        go_wp2
        go_roundw
        case rel => exact ⟨k + 1, by omega, by go_num, _, rfl⟩
        case measure => simp [intOf]; omega
      case' neg =>
        go_wp2_with fail
        have HBJ : Hid (Below w.heap.size w ((w4.alloc (.cells #[.bool true, .string nm, .int .i64 z, .slice a4 ln c4] 29)).drewN d)) := below_drewN (HBA _) d
        clear HBA RA RB x0 x1 x2 k4 z4
        revert HBJ
        generalize (w4.alloc (.cells #[.bool true, .string nm, .int .i64 z, .slice a4 ln c4] 29)).drewN d = wj
        intro HBJ
  all_goals
    refine (drawTable_any _ _ _ xs _ (HA.out.below HBJ.out) HX.out hn2).mono ?_
    rintro e w5 ⟨ta, tn, tc, es, rfl, rowt, htn, hb5⟩
    have HB5 : Hid (Below w.heap.size w w5) := HBJ.out.trans (hb5.mono HBJ.out.size)
    clear hb5 HBJ
    go_wp2_with fail
    refine (encodeTable_impl _ _ _ es _ rowt (by omega)).mono ?_
    rintro e w6 ⟨sb, rfl, own6, hb6⟩
    have rowt6 := rowt.below hb6
    have HB6 : Hid (Below w.heap.size w w6) := HB5.out.trans (hb6.mono HB5.out.size)
    obtain ⟨b6, c6, rfl, r6⟩ := owns_row own6
    obtain ⟨_, q6, q6'⟩ := owns_caps own6
    have hTl : es.length = tn := rowt.1
    have HTL : Hid (es.length = tn) := hTl
    clear own6 hb6 rowt HB5 hTl
    go_wp2_with fail
    refine (encodeTable_spec _ _ _ es _ rowt6 (by omega)).mono ?_
    rintro e w7 ⟨s7, rfl, own7, hb7⟩
    obtain ⟨b7, c7, rfl, _⟩ := owns_row own7
    have HB7 : Hid (Below w.heap.size w w7) := HB6.out.trans (hb7.mono HB6.out.size)
    have r7 := (r6.below hb7).read
    have rowt7 := rowt6.below hb7
    clear own7 hb7 r6 rowt6 HB6
    have hl1 : (((encT es).length : Int) != ((encT es).length : Int)) = false := by simp
    by_cases ht : (encT es).length = 0
    case' pos =>
      rw [ht]
      go_wp2_with fail
      have HBK := HB7
      clear HB7 r7 rowt7 q6 q6' hl1 ht
      revert HBK
      generalize w7 = wk
      intro HBK
    case' neg =>
      have hok : es.length ≤ 1024 ∧ eAll es = true := by
        by_cases h : es.length ≤ 1024 ∧ eAll es = true
        · exact h
        · exact absurd (by unfold encT; rw [if_neg h]; rfl) ht
      have HE : Hid (encT es = eBytes es) := by show _ = _; unfold encT; rw [if_pos hok]
      rw [HE.out] at r7 q6 ht hl1 ⊢
      have HOK : Hid (es.length ≤ 1024 ∧ eAll es = true) := hok
      have hpos : 0 < ((eBytes es).length : Int) := by omega
      clear hok HE ht
      go_wp2_with fail
      refine (table_back HOK.out.1 HOK.out.2 _ _ _ _ r7 (eBytes_byt es) q6 q6').mono ?_
      rintro e w8 ⟨a8, c8, rfl, row8, hb8⟩
      have rowt8 := rowt7.below hb8
      have HB8 : Hid (Below w.heap.size w w8) := HB7.out.trans (hb8.mono HB7.out.size)
      rw [HTL.out] at row8 ⊢
      clear hb8 HB7 r7 rowt7 q6 q6' hl1 hpos HOK
      have hla : ∀ o, Below w8.heap.size w8 (w8.alloc o) := fun o => (Below.refl _ w8).alloc (Nat.le_refl _) o
      have RA := Hid.out (fun o : Obj => (row8.below (hla o)).read)
      have RB := Hid.out (fun o : Obj => (rowt8.below (hla o)))
      have HBA := Hid.out (fun o : Obj => HB8.out.alloc HB8.out.size o)
      have hl2 : ((tn : Int) != (tn : Int)) = false := by simp
      clear hla row8 rowt8 HB8
      go_wp2_with fail
      go_loopw [9] (fun i wr => ∃ k : Nat, k ≤ tn ∧ i = .int .i64 k ∧ ∃ d, wr = (w8.alloc (.cells #[.bool true, .slice a8 tn c8] 35)).drewN d) (fun i _ => tn - (intOf i).toNat)
      case atStart => exact ⟨0, Nat.zero_le _, rfl, 0, rfl⟩
      case' round =>
        obtain ⟨k, hk, rfl, d, rfl⟩ := hrel
        by_cases hlt : k < tn
        case pos =>
          obtain ⟨g1, o1, rfl, hc1⟩ := (RA (.cells #[.bool true, .slice a8 tn c8] 35)).2.resolve_left (by omega)
          obtain ⟨g2, o2, rfl, hc2⟩ := (RB (.cells #[.bool true, .slice (some ⟨g1, o1, none⟩) tn c8] 35)).2.resolve_left (by omega)
          obtain ⟨c1, c1'⟩ := hc1 k hlt
          obtain ⟨c2, c2'⟩ := hc2 k hlt
          have hlt' : (k : Int) < (tn : Int) := by omega
          have h0' : (0 : Int) ≤ (k : Int) := by omega
          have hx2 : (eA es k != eA es k) = false := by simp
          have hx3 : (eI es k != eI es k) = false := by simp
          clear hc1 hc2
          go_wp2
          go_quiet (fail)
          go_wp2
          go_roundw
          case rel => exact ⟨k + 1, by omega, by go_num, _, rfl⟩
          case measure => simp [intOf]; omega
        case' neg =>
          go_wp2_with fail
          have HBK : Hid (Below w.heap.size w ((w8.alloc (.cells #[.bool true, .slice a8 tn c8] 35)).drewN d)) := below_drewN (HBA _) d
          clear HBA RA RB
          revert HBK
          generalize (w8.alloc (.cells #[.bool true, .slice a8 tn c8] 35)).drewN d = wk
          intro HBK
  all_goals
    refine (drawHeader_any _ _ _ xs _ (HA.out.below HBK.out) HX.out hn2).mono ?_
    rintro e w9 ⟨hs, hp, hq, rfl, hb9⟩
    have HB9 : Hid (Below w.heap.size w w9) := HBK.out.trans (hb9.mono HBK.out.size)
    have HBa := Hid.out (fun o : Obj => HB9.out.alloc HB9.out.size o)
    clear hb9 HBK HB9
    go_wp2_with fail
    refine (encodeHeader_fix hs hp hq _).mono ?_
    rintro e wa ⟨ha, rfl, ra, hba⟩
    have ka := (hba.block w9.heap.size (by simp)).trans (heap_alloc_new w9 _)
    have HBb : Hid (Below w.heap.size w wa) := (HBa _).trans (hba.mono (HBa _).size)
    have za := (Array.getElem?_eq_some_iff.1 ka).1
    obtain ⟨⟨m0, m1, m2⟩, _, _, _⟩ := three_of ka
    clear hba HBa
    go_wp2_with fail
    refine (encodeHeader_spec hs hp hq _).mono ?_
    rintro e wb ⟨sv, rfl, ownb, hbb⟩
    obtain ⟨vb, cb, rfl, _⟩ := owns_row ownb
    have kb := (hbb.block w9.heap.size (by omega)).trans ka
    have HBc : Hid (Below w.heap.size w wb) := HBb.out.trans (hbb.mono HBb.out.size)
    have rb9 := (ra.below hbb).read
    have zb := (Array.getElem?_eq_some_iff.1 kb).1
    clear ownb hbb ra ka m0 m1 m2 HBb
    cases hh : hdrB hs hp hq
    · have HE : Hid (encH hs hp hq = []) := by show _ = _; unfold encH; rw [hh]; rfl
      rw [HE.out, List.length_nil]
      clear HE rb9 hh
      go_wp2
      go_ret
      exact ⟨rfl, HBc.out⟩
    · have HE : Hid (encH hs hp hq = hdrL hs hp hq) := by show _ = _; unfold encH; rw [hh]; rfl
      rw [HE.out, hdrL_len] at rb9
      rw [HE.out, hdrL_len]
      go_wp2_with fail
      refine (header_back hh _ _ rb9).mono ?_
      rintro e wc ⟨rfl, hbc⟩
      have kc := (hbc.block w9.heap.size (by omega)).trans kb
      have HBd : Hid (Below w.heap.size w wc) := HBc.out.trans (hbc.mono HBc.out.size)
      have HBe := Hid.out (fun o : Obj => HBd.out.alloc HBd.out.size o)
      have zc := (Array.getElem?_eq_some_iff.1 kc).1
      have kx : ∀ o, (wc.alloc o).heap[w9.heap.size]? = some (.cells #[.int .i64 hs, .int .i64 hp, .int .i64 hq] 40 (0, 0)) := fun o => (heap_alloc_old wc o (by omega)).trans kc
      have x0 : ∀ o, (wc.alloc o).cell? ⟨w9.heap.size, 0, none⟩ = some (.int .i64 hs) := fun o => (three_of (kx o)).1.1
      have x1 : ∀ o, (wc.alloc o).cell? ⟨w9.heap.size, 1, none⟩ = some (.int .i64 hp) := fun o => (three_of (kx o)).1.2.1
      have x2 : ∀ o, (wc.alloc o).cell? ⟨w9.heap.size, 2, none⟩ = some (.int .i64 hq) := fun o => (three_of (kx o)).1.2.2
      clear hbc kx HE rb9 hh kb kc HBc HBd
      have t0 : (hs == hs) = true := by simp
      have t1 : (hp == hp) = true := by simp
      have t2 : (hq == hq) = true := by simp
      go_wp2
      go_ret
      exact ⟨rfl, HBe _⟩
end Go.Proofs.YtkkammbfomiofaaDoor
