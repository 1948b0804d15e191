/-
  Headers: the specification's EncodeHeader.
-/
import Derived.Test.YtkkammbfomiofaaDoorHdr
namespace Go.Proofs.YtkkammbfomiofaaDoor
open Go.RowKit
set_option linter.unusedSimpArgs false
set_option linter.unusedVariables false

/-- append on a row of the call's own, as one step of a region that draws. -/
theorem step_append_own {P : Program} {ops : Array Oper} {o : Oper} {a : Act} {w : World} {K : Act → World → Prop} {Q : Exit → Act → World → Prop} {E : Prop}
    (hg : o.guard = none) (s x : Operand) (t : TypeId) (hop : o.op = Op.call { callee := Callee.builtin Builtin.append, args := #[s, x], argTypes := #[t, t] })
    (base : Nat) (e : TypeId) (i : TypeInfo) (z : Value) (size bytes : Nat) (h1 : P.underlying t = some (.slice e)) (h2 : P.info? e = some i) (h3 : i.zero = some z) (h4 : i.size = size) (h5 : i.bytes = bytes) (h6 : z.cells.size = size) (h7 : 0 < size)
    (v : Value) (n : Nat) (xs : List Value) (hs : a.eval s = v) (hown : w.ownsRow base e size v n xs)
    (ad : Addr) (m c : Nat) (news : List Value) (hx : a.eval x = .slice (some ad) m c) (hn : news.length = m * size) (hc : ∀ j u, news[j]? = some u → w.cell? (ad.add j) = some u) (h1c : ∀ u ∈ news, u.oneCell' = true)
    (b1 : n + m ≤ maxLen) (b2 : (n + m) * bytes ≤ 140737488355328) (b3 : base ≤ w.heap.size)
    (hK : ∀ v' w', w'.ownsRow base e size v' (n + m) (xs ++ news) → w.grownBy w' v.ownBlock → K (a.put o.dst v') w') :
    if Region.wanted o (yielded ops a.tmps) = true then Oper.wp P o a w K Q else E := by
  have hw : Region.wanted o (yielded ops a.tmps) = true := by simp [Region.wanted, hg]
  rw [if_pos hw]
  obtain ⟨v', w', hrun, r1, r2, _⟩ := run_append_own (P := P) w base t o.type e i z size bytes h1 h2 h3 h4 h5 h6 h7 v n xs hown ad m c news hn hc h1c b1 b2 b3
  unfold Oper.wp
  simp [execOp, hop, resolve, invoke, builtin, hs, hx, hrun, Result.andThen]
  exact hK v' w' r1 r2

theorem owns_belowH {w w' : World} {B e sz n : Nat} {s : Value} {xs : List Value} (h : w.ownsRow B e sz s n xs) (hb : Below w.heap.size w w') : w'.ownsRow B e sz s n xs :=
  h.kept (row := none) ⟨hb.os, hb.tape, hb.output, hb.size, fun k hk _ => hb.block k hk⟩ (by cases hv : s.ownBlock <;> simp)
theorem owns_baseH {w : World} {B B' e sz n : Nat} {s : Value} {xs : List Value} (h : w.ownsRow B e sz s n xs) (hB : B' ≤ B) : w.ownsRow B' e sz s n xs := by
  refine ⟨h.1, h.2.imp id ?_⟩
  rintro ⟨g, cap, cur, e1, hg, rest⟩
  exact ⟨g, cap, cur, e1, by omega, rest⟩
theorem three_cells {w1 : World} {g : Nat} {t : TypeId} {x y z : Value} (h : w1.heap[g]? = some (.cells #[x, y, z] t (0, 0))) : w1.cell? ⟨g, 0, none⟩ = some x ∧ w1.cell? ⟨g, 1, none⟩ = some y ∧ w1.cell? ⟨g, 2, none⟩ = some z :=
  ⟨by rw [cell_of_row w1 g 0 _ _ _ h]; rfl, by rw [cell_of_row w1 g 1 _ _ _ h]; rfl, by rw [cell_of_row w1 g 2 _ _ _ h]; rfl⟩

theorem hdr_bad {s p q : Int} (h : ¬ ((1 ≤ s ∧ s ≤ 1099511627776) ∧ (0 ≤ p ∧ p ≤ 65535) ∧ 0 ≤ q ∧ q ≤ 65535)) : encH s p q = [] := by
  unfold encH
  rw [if_neg (fun e => h (hdr_bounds e))]
theorem hdr_good {s p q : Int} (h : (1 ≤ s ∧ s ≤ 1099511627776) ∧ (0 ≤ p ∧ p ≤ 65535) ∧ 0 ≤ q ∧ q ≤ 65535) : encH s p q = hdrL s p q := by
  unfold encH
  rw [if_pos (by simp only [hdrB, partB, Bool.and_eq_true, decide_eq_true_eq]; exact ⟨h.1, h.2.1, h.2.2⟩)]

theorem hdrL_pad (s p q : Int) : hdrL s p q = padL (beB s 8 ++ beB p 2 ++ beB q 2) 56 ++ beB s 8 := by
  simp only [hdrL, padL, List.length_append, beB_len, List.append_assoc]

set_option maxHeartbeats 4000000 in
set_option maxRecDepth 100000 in
theorem encodeHeader_spec (s p q : Int) (w : World) :
    Calls Tryd.prog 14 #[.agg #[.int .i64 s, .int .i64 p, .int .i64 q]] w fun e w' => ∃ v, e = .returned v ∧ w'.ownsRow w.heap.size 5 1 v (encH s p q).length (u8s (encH s p q)) ∧ Below w.heap.size w w' := by
  have HE : ∀ o : Obj, ((w.alloc o).alloc (.cells #[] 5)).ownsRow w.heap.size 5 1 (.slice (some ⟨w.heap.size + 1, 0, none⟩) 0 0) 0 [] := fun o => by
    have := World.ownsRow_made (base := w.heap.size) (e := 5) (size := 1) (w.alloc o) #[] 0 (by simp) (Nat.zero_le _) rfl
    simpa using this
  have HB : ∀ o o', Below w.heap.size w ((w.alloc o).alloc o') := fun o o' => ((Below.refl _ _).alloc (Nat.le_refl _) _).alloc (by simp) _
  by_cases t1 : s < 1
  · have HF : Hid (encH s p q = []) := hdr_bad (by omega)
    go_enter Tryd.func14, Tryd.ntmps14
    go_wp2
    go_ret
    exact ⟨_, rfl, by rw [HF.out]; exact HE _, HB _ _⟩
  by_cases t2 : 1099511627776 < s
  · have HF : Hid (encH s p q = []) := hdr_bad (by omega)
    go_enter Tryd.func14, Tryd.ntmps14
    go_wp2
    go_ret
    exact ⟨_, rfl, by rw [HF.out]; exact HE _, HB _ _⟩
  by_cases t3 : p < 0
  · have HF : Hid (encH s p q = []) := hdr_bad (by omega)
    go_enter Tryd.func14, Tryd.ntmps14
    go_wp2
    go_ret
    exact ⟨_, rfl, by rw [HF.out]; exact HE _, HB _ _⟩
  by_cases t4 : 65535 < p
  · have HF : Hid (encH s p q = []) := hdr_bad (by omega)
    go_enter Tryd.func14, Tryd.ntmps14
    go_wp2
    go_ret
    exact ⟨_, rfl, by rw [HF.out]; exact HE _, HB _ _⟩
  by_cases t5 : q < 0
  · have HF : Hid (encH s p q = []) := hdr_bad (by omega)
    go_enter Tryd.func14, Tryd.ntmps14
    go_wp2
    go_ret
    exact ⟨_, rfl, by rw [HF.out]; exact HE _, HB _ _⟩
  by_cases t6 : 65535 < q
  · have HF : Hid (encH s p q = []) := hdr_bad (by omega)
    go_enter Tryd.func14, Tryd.ntmps14
    go_wp2
    go_ret
    exact ⟨_, rfl, by rw [HF.out]; exact HE _, HB _ _⟩
  have HF : Hid (encH s p q = hdrL s p q) := hdr_good (by omega)
  obtain ⟨i0, hi, hz0, hz1, hz2⟩ := info_parts info5
  clear HE HB
  have b1 : 0 ≤ s := by omega
  have b2 : s ≤ 4611686018427387904 := by omega
  have b3 : 0 ≤ p := by omega
  have b4 : p ≤ 4611686018427387904 := by omega
  have b5 : 0 ≤ q := by omega
  have b6 : q ≤ 4611686018427387904 := by omega
  have w0b : Below w.heap.size w (w.alloc (.cells #[.int .i64 s, .int .i64 p, .int .i64 q] 40)).drew := ((Below.refl _ _).alloc (Nat.le_refl _) _).drew
  have w0k : (w.alloc (.cells #[.int .i64 s, .int .i64 p, .int .i64 q] 40)).drew.heap[w.heap.size]? = some (.cells #[.int .i64 s, .int .i64 p, .int .i64 q] 40 (0, 0)) := heap_alloc_new w _
  have w0s : (w.alloc (.cells #[.int .i64 s, .int .i64 p, .int .i64 q] 40)).drew.heap.size = w.heap.size + 1 := by simp
  go_enter Tryd.func14, Tryd.ntmps14
  go_wp2_with fail
  go_region_law (first
    | (refine step_append_own rfl (.tmp 35) (.tmp 38) 22 rfl (w.heap.size + 1) 5 i0 (.int .u8 0) 1 1 Tryd.underlying22 hi hz0 hz1 hz2 rfl (by decide) s1 8 _ rfl own1c ⟨g2, 0, none⟩ 2 c2 _ rfl (by rw [u8s_len, beB_len]) hc2 (many_u8 _) (by unfold maxLen; omega) (by omega) (by omega) ?_; intro v3 w3 own3 grow3)
    | (go_simp; go_at_call_of 22 (Value.int .i64 s); refine (l2Big_any 8 s _ b1 b2 (by omega)).mono ?_; rintro e w1 ⟨s1, rfl, own1, hb1⟩; rw [w0s] at own1; have k1 := (hb1.block w.heap.size (by rw [w0s]; omega)).trans w0k; obtain ⟨m0, m1, m2⟩ := three_cells k1; have hB1 : Below w.heap.size w w1 := w0b.trans (hb1.mono (by rw [w0s]; omega)))
    | (go_simp; go_at_call_of 22 (Value.int .i64 p); refine (l2Big_any 2 p _ b3 b4 (by omega)).mono ?_; rintro e w2 ⟨s2, rfl, own2, hb2⟩; obtain ⟨g2, c2, rfl, hc2, _⟩ := owns_some own2 (by omega); have own1c := owns_belowH own1 hb2; have hB2 : Below w.heap.size w w2 := hB1.trans (hb2.mono hB1.size); have k2 := (hb2.block w.heap.size (by have := hB1.size; have := (Array.getElem?_eq_some_iff.1 k1).1; omega)).trans k1; have hs2 := hB2.size; have hl2 : w.heap.size < w2.heap.size := (Array.getElem?_eq_some_iff.1 k2).1))
  all_goals
    have hB3 : Below w.heap.size w w3 := hB2.grown grow3 hs2 (fun k hk => by have := (own1c.lt k hk).1; omega)
    have k3 := (grow3.block w.heap.size hl2 (fun e => by have := (own1c.lt _ e.symm).1; omega)).trans k2
    obtain ⟨n0, n1, n2⟩ := three_cells k3
    rw [← u8s_append] at own3
    have hs3 := hB3.size
    have hl3 : w.heap.size < w3.heap.size := (Array.getElem?_eq_some_iff.1 k3).1
    clear own1 own1c own2 hb1 hb2 k1 k2 hc2 grow3 m0 m1 m2 hB1 hB2 w0k w0s w0b
    go_wp2_with fail
    refine (l2Big_any 2 q _ b5 b6 (by omega)).mono ?_
    rintro e w4 ⟨s4, rfl, own4, hb4⟩
    obtain ⟨g4, c4, rfl, hc4, _⟩ := owns_some own4 (by omega)
    have own3c := owns_belowH own3 hb4
    have hB4 : Below w.heap.size w w4 := hB3.trans (hb4.mono hs3)
    have k4 := (hb4.block w.heap.size hl3).trans k3
    have hl4 : w.heap.size < w4.heap.size := (Array.getElem?_eq_some_iff.1 k4).1
    clear own3 own4 hb4 k3 n0 n1 n2 hB3
    go_wp2_with (at_builtin; refine wpList_append_own _ rfl _ _ 22 rfl (w.heap.size + 1) 5 i0 (.int .u8 0) 1 1 Tryd.underlying22 hi hz0 hz1 hz2 rfl (by decide) _ _ _ rfl own3c ⟨g4, 0, none⟩ 2 c4 _ rfl (by rw [u8s_len, beB_len]) hc4 (many_u8 _) (by unfold maxLen; omega) (by omega) (by omega) ?_)
    intro v5 w5 own5 grow5 _
    have hB5 : Below w.heap.size w w5 := hB4.grown grow5 (by omega) (fun k hk => by have := (own3c.lt k hk).1; omega)
    have k5 := (grow5.block w.heap.size hl4 (fun e => by have := (own3c.lt _ e.symm).1; omega)).trans k4
    rw [← u8s_append] at own5
    obtain ⟨a5, c5, rfl⟩ := owns_shape own5
    have hr5 : IRow .u8 w5.drew a5 (8 + 2 + 2) (beB s 8 ++ beB p 2 ++ beB q 2) := by
      obtain ⟨a6, c6, e6, r6⟩ := owns_row own5
      injection e6 with e7 e8 e9
      subst e7
      exact r6.read
    have hB5d : Below w.heap.size w w5.drew := hB5.drew
    have k5d : w5.drew.heap[w.heap.size]? = some (.cells #[.int .i64 s, .int .i64 p, .int .i64 q] 40 (0, 0)) := k5
    have hl5 : w.heap.size < w5.drew.heap.size := (Array.getElem?_eq_some_iff.1 k5d).1
    clear own3c own5 grow5 hc4 k4 hB4 hB5 k5
    obtain ⟨m0, m1, m2⟩ := three_cells k5d
    go_wp2_with fail
    go_region_law (first
      | (refine step_append_own rfl (.tmp 46) (.tmp 49) 22 rfl (w.heap.size + 1) 5 i0 (.int .u8 0) 1 1 Tryd.underlying22 hi hz0 hz1 hz2 rfl (by decide) s6 56 _ rfl own6c ⟨g7, 0, none⟩ 8 c7 _ rfl (by rw [u8s_len, beB_len]) hc7 (many_u8 _) (by unfold maxLen; omega) (by omega) (by omega) ?_; intro v8 w8 own8 grow8)
      | (go_simp; go_at_call 21; refine (l2Pad_any _ _ _ 56 _ _ hr5 (by omega) (by omega)).mono ?_; rintro e w6 ⟨s6, rfl, own6, hb6⟩; have k6 := (hb6.block w.heap.size hl5).trans k5d; obtain ⟨o0, o1, o2⟩ := three_cells k6; have hB6 : Below w.heap.size w w6 := hB5d.trans (hb6.mono hB5d.size))
      | (go_simp; go_at_call_of 22 (Value.int .i64 s); refine (l2Big_any 8 s _ b1 b2 (by omega)).mono ?_; rintro e w7 ⟨s7, rfl, own7, hb7⟩; obtain ⟨g7, c7, rfl, hc7, _⟩ := owns_some own7 (by omega); have own6c := owns_belowH (owns_baseH own6 (by omega : w.heap.size + 1 ≤ _)) hb7; have hB7 : Below w.heap.size w w7 := hB6.trans (hb7.mono hB6.size); have hs7 := hB7.size; have hl7 := (Array.getElem?_eq_some_iff.1 ((hb7.block w.heap.size (Array.getElem?_eq_some_iff.1 k6).1).trans k6)).1))
    all_goals
      have hB8 : Below w.heap.size w w8 := hB7.grown grow8 hs7 (fun k hk => by have := (own6c.lt k hk).1; omega)
      have hfin : w8.ownsRow w.heap.size 5 1 v8 (encH s p q).length (u8s (encH s p q)) := by
        rw [HF.out, hdrL_len]
        have e : hdrL s p q = padL (beB s 8 ++ beB p 2 ++ beB q 2) 56 ++ beB s 8 := hdrL_pad s p q
        rw [e, u8s_append]
        exact owns_baseH own8 (by omega)
      clear own8 own6 own6c own7 hb6 hb7 hc7 k6 grow8 o0 o1 o2 m0 m1 m2 hB6 hB7 hr5
      go_wp2
      go_ret
      exact ⟨_, rfl, hfin, hB8⟩
end Go.Proofs.YtkkammbfomiofaaDoor
