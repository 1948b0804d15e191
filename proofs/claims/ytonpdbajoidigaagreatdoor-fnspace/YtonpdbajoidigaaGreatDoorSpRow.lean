/-
  FnSpace: the row and the tied card.
-/
import Derived.Test.YtonpdbajoidigaaGreatDoorTie
import Derived.Test.YtonpdbajoidigaaGreatDoorCards
import Derived.Test.YtonpdbajoidigaaGreatDoorSro
import Derived.WalkKit
import Derived.ProofKit
import Derived.OpenShut
import Derived.OpenVars
import Derived.ChangeOld
import Derived.ChangeVars
import Derived.Below
import Derived.Carry
import Derived.Deep.Slices
import Derived.Lib.SmallJoins
import Derived.Lib.LaidU8
import Derived.LaidMore
import Derived.Lay
import Derived.Seven
import Derived.SevenTold
import Derived.SevenTiedAt
import Derived.Stop.Joined
import Derived.Shelf.Vars
namespace Go.Proofs.YtonpdbajoidigaaGreatDoor
open Go.ChangeShapes Go.WideShapes Go.ChangeAt Go.RowKit Go.Joins
set_option linter.unusedSimpArgs false
set_option linter.unusedVariables false

theorem own : ownKnob Tryz.prog.godebug = none := by kernel_rfl
theorem laidOut : laidOutB Tryz.prog = true := by kernel_rfl
theorem cellsU5 : Tryz.prog.cellsOf 5 = 1 := by kernel_rfl

theorem spot_zero {w : World} {x : Addr} {v : Value} (h : w.cell? (x.add 0) = some v) : x.spot = none := by
  have e : x.add 0 = x := by simp [Addr.add]
  rw [e] at h; exact World.cell?_spot h
theorem add_some {w : World} {x : Addr} {i : Nat} {v : Value} (h : w.cell? (x.add i) = some v) : w.cell? ⟨x.block, x.off + i, none⟩ = some v := by
  obtain ⟨b, off, spot⟩ := x
  by_cases hi : i = 0
  · subst hi
    have := spot_zero h
    simp only at this
    subst this
    simpa [Addr.add] using h
  · simpa [Addr.add, hi] using h
theorem irow_take {k : IntKind} {w : World} {x : Addr} {n : Nat} {zs : List Int} (hn : n ≤ zs.length) (hc : ∀ i, i < zs.length → w.cell? (x.add i) = some (.int k (zs.getD i 0))) : IRow k w (some x) n (zs.take n) := by
  refine ⟨by simp; omega, ?_⟩
  by_cases h0 : n = 0
  · exact .inl h0
  · have hs := spot_zero (hc 0 (by omega))
    refine .inr ⟨x.block, x.off, ?_, fun i hi => ?_⟩
    · obtain ⟨b, off, spot⟩ := x; simp only at hs; rw [hs]
    · rw [add_some (hc i (by omega))]
      simp [List.getD, hi]
theorem wf_u8 {n : Int} (h : (Lit.int .u8 n).wf = true) : 0 ≤ n ∧ n ≤ 255 := by
  have a1 : IntKind.u8.min = 0 := rfl
  have a2 : IntKind.u8.max = 255 := rfl
  simp only [Lit.wf, Bool.and_eq_true, decide_eq_true_eq] at h
  omega

theorem open_bytes {H : Type} {enc : TypeId × Value → H} {W : World} {fuel : Nat} {cs : List Value} {x : DataW H × List MemPlace} (h : DataW.trod enc Tryz.prog W 0 (fun _ => true) true fuel 22 cs = some x) :
    ∃ a n c xs, cs = [.slice a n c] ∧ (n : Int) ≤ 9223372036854775807 ∧ IRow .u8 W a n xs ∧ (∀ x ∈ xs, 0 ≤ x ∧ x ≤ 255) := by
  rcases open_ints Tryz.underlying22 Tryz.underlying5 cellsU5 h with ⟨hcs, _⟩ | ⟨y, l, c, zs, hcs, _, hl, hm, hz, _, hcell, hwz⟩
  · exact ⟨none, 0, 0, [], hcs, by omega, ⟨rfl, .inl rfl⟩, fun x hx => by simp at hx⟩
  · unfold maxLen at hm
    simp only [if_true] at hz
    exact ⟨some y, l, c, zs.take l, hcs, by omega, irow_take (by omega) hcell, fun x hx => wf_u8 (hwz x (List.mem_of_mem_take hx))⟩

theorem bools_of_struct {H : Type} {enc : TypeId × Value → H} {w : World} {base : Nat} {sp : Nat → Bool} {held : Bool} {fuel : Nat} {cs : List Value} {zs : List Bool} {p : List MemPlace}
    (h : DataW.trod enc Tryz.prog w base sp held fuel 195 cs = some (.agg (zs.map fun z => .lit (.bool z)), p)) : cs.length = 5 ∧ ∀ i, i < 5 → ∃ z, zs[i]? = some z ∧ cs[i]? = some (.bool z) := by
  obtain ⟨fs, ht, hf⟩ : ∃ fs : Array Field, Tryz.prog.underlying 195 = some (.struct fs) ∧ (fs.size = 5 ∧ (fs.toList.zipIdx.all fun x => decide (x.1.type = 4) && decide (x.1.offset = x.2)) = true) := ⟨_, Tryz.underlying195, by kernel_rfl, by kernel_rfl⟩
  obtain ⟨xs, n, rfl, hx, hl, hxl, hall⟩ := DataW.trod_struct ht h
  have hct : Tryz.prog.cellsOf 195 = 5 := by kernel_rfl
  have hcb : Tryz.prog.cellsOf 4 = 1 := by kernel_rfl
  refine ⟨by rw [hl, hct], fun i hi => ?_⟩
  have hfi : fs[i]? = some fs[i] := by simp
  have hz := List.all_eq_true.1 hf.2 (fs[i], i) (by
    rw [List.mem_iff_getElem?]
    exact ⟨i, by simp⟩)
  simp only [Bool.and_eq_true, decide_eq_true_eq] at hz
  have h1 := hall i fs[i] hfi
  rw [hz.1, hz.2, hcb] at h1
  obtain ⟨b, hb⟩ : ∃ b, xs[i]? = some b := ⟨xs[i]'(by omega), List.getElem?_eq_getElem (by omega)⟩
  rw [hb] at h1
  obtain ⟨z, hcz, rfl⟩ := DataW.trod_bool Tryz.underlying4 h1
  have hxs : xs.map (·.1) = zs.map fun z => (DataW.lit (.bool z) : DataW H) := by
    have := congrArg Prod.fst hx
    simpa using this.symm
  have h3 : (xs.map (·.1))[i]? = some (DataW.lit (.bool z) : DataW H) := by simp [hb]
  rw [hxs] at h3
  simp only [List.getElem?_map, Option.map_eq_some_iff, DataW.lit.injEq, Lit.bool.injEq] at h3
  obtain ⟨z', hz', rfl⟩ := h3
  refine ⟨_, hz', ?_⟩
  have := congrArg (·[0]?) hcz
  simpa [List.getElem?_take, List.getElem?_drop] using this
set_option maxRecDepth 100000 in
theorem rule_read {W : World} (h : Lib.VarReads Tryz.prog W "loop.example/s02881/impl.callRules" Rows.laid_loop_example_s02881_impl_callRules) (k : Nat) (hk : k < 9) (r0 r1 r2 r3 r4 : Bool)
    (hd : (match (Rows.laid_loop_example_s02881_impl_callRules : DataW Unit) with | .agg ds => ds[k]? | _ => none) = some (.agg ([r0, r1, r2, r3, r4].map fun z => .lit (.bool z)))) : RuleAt W k r0 r1 r2 r3 r4 := by
  obtain ⟨g, t, cs, fuel, p, hg, hty, hvar, htr⟩ := h
  obtain rfl : g = 0 := Option.some.inj (hg.symm.trans (show Tryz.prog.globalNamed "loop.example/s02881/impl.callRules" = some 0 by kernel_rfl))
  obtain rfl : t = 196 := Option.some.inj (hty.symm.trans (by kernel_rfl))
  unfold Rows.laid_loop_example_s02881_impl_callRules at htr hd
  obtain ⟨fu, d, q, h1, h2⟩ := Lib.array_elem Tryz.underlying196 htr k hk
  have hct : Tryz.prog.cellsOf 195 = 5 := by kernel_rfl
  rw [hct] at h2
  have hde : d = .agg ([r0, r1, r2, r3, r4].map fun z => .lit (.bool z)) := Option.some.inj (h1.symm.trans hd)
  rw [hde] at h2
  obtain ⟨hl, hc⟩ := bools_of_struct h2
  have hcell : ∀ i (z : Bool), i < 5 → [r0, r1, r2, r3, r4][i]? = some z → W.cell? ⟨0, k * 5 + i, none⟩ = some (.bool z) := fun i z hi hz => by
    obtain ⟨z', e1, e2⟩ := hc i hi
    rw [e1] at hz
    injection hz with hz
    subst hz
    rw [World.var?_cell hg hvar (k * 5 + i), ← Array.getElem?_toList]
    simpa [List.getElem?_take, List.getElem?_drop, hi] using e2
  exact ⟨hcell 0 r0 (by omega) rfl, hcell 1 r1 (by omega) rfl, hcell 2 r2 (by omega) rfl, hcell 3 r3 (by omega) rfl, hcell 4 r4 (by omega) rfl⟩
theorem rules_reads {W : World} (h : Lib.VarReads Tryz.prog W "loop.example/s02881/impl.callRules" Rows.laid_loop_example_s02881_impl_callRules) : RulesAt W :=
  ⟨rule_read h 1 (by omega) _ _ _ _ _ rfl, rule_read h 2 (by omega) _ _ _ _ _ rfl, rule_read h 4 (by omega) _ _ _ _ _ rfl, rule_read h 6 (by omega) _ _ _ _ _ rfl⟩
set_option maxRecDepth 100000 in
theorem law_big (a : Option Addr) (l ca : Nat) (w : World) (hbig : 1048576 < l) :
    Calls Tryz.prog 3 #[.slice a l ca] w fun e w' => e = .returned (.bool true) ∧ Below w.heap.size w w' := by
  have hb' : (1048576 : Int) < (l : Int) := by omega
  go_enter Tryz.func3, Tryz.ntmps3
  go_wp2
  go_ret
  exact ⟨rfl, Below.refl _ _⟩
theorem law_any (a : Option Addr) (l ca : Nat) (xs : List Int) (w : World) (h : IRow .u8 w a l xs) (hx : ∀ x ∈ xs, 0 ≤ x ∧ x ≤ 255) (hR : RulesAt w) (hw0 : 0 < w.heap.size) :
    Calls Tryz.prog 3 #[.slice a l ca] w fun e w' => e = .returned (.bool true) ∧ Below w.heap.size w w' := by
  by_cases hbig : 1048576 < l
  · exact law_big a l ca w hbig
  · exact law_space a l ca xs w h (fun i hi => Byt.at hx i (by rw [h.1]; exact hi)) (by omega) hR hw0
set_option maxRecDepth 100000 in
theorem space_lifted (os : Os) (started : os.Started) (H : Type) (enc : TypeId × Value → H) :
    ReturnsInHanded {} Tryz.checked os 3 .any (fun w args => (Rows.fnSpaceSpec.pre enc Tryz.prog Tryz.f3 Rows.fnSpaceRow.domain false w args ∧ laidMetH Tryz.prog Rows.fnSpaceRow.laid w) ∧ sizedMet enc Tryz.prog Tryz.f3 (OpenSpec.ofChange Rows.fnSpaceSpec) false w args)
      (Rows.fnSpaceSpec.post enc Tryz.prog Tryz.f3 false true false false) := by
  refine returnsInHanded_of_change_and (C := Tryz.checked) (X := fun w _ => laidMetH Tryz.prog Rows.fnSpaceRow.laid w) (fun _ _ _ hh h => h.of_heap hh) own started (by kernel_rfl) Tryz.func3
    (ChangeSpec.witness_shaped (enc := enc) (C := Tryz.checked) (os := os) (X := fun w _ => laidMetH Tryz.prog Rows.fnSpaceRow.laid w) false (World.laidAll Tryz.prog os Rows.fnSpaceRow.laid) #[.slice none 0 0] 8 (World.laidAll_os _ _ _)
      (World.shaped_of_ZipB (by kernel_rfl) (by kernel_rfl)) (by kernel_rfl) (by kernel_rfl) (by kernel_rfl)
      (by rw [MakeChecks.laidMetH_plain _ _ _ (by kernel_rfl)]; exact laidMet_laidAll _ (by kernel_rfl) (by kernel_rfl))) ?_
  intro W base args ds gs before hval0 hW hcnd _ hX _
  have hval : ∀ (j : Nat) t v, Tryz.f3.params[j]? = some t → args[j]? = some v → Value.okWide Tryz.prog W .any base t v := hval0
  have hW' := hW
  obtain ⟨p, q, hA0, hV, rfl, hfz, hnd⟩ := hW
  have hA : DataW.TrodAll enc Tryz.prog W 0 (fun _ => true) true Tryz.f3.params.toList args.toList ds p := hA0
  rw [Tryz.params3] at hA hval
  obtain ⟨v0, vs0, d0, ds0, p0, q0, hargs, rfl, rfl, h0, r0⟩ := trodAll_cons hA
  obtain ⟨rfl, rfl, rfl⟩ := trodAll_nil r0
  obtain rfl : args = #[v0] := by cases args; simp_all
  have hV1 : DataW.TrodVars enc Tryz.prog W (fun _ => true) ["loop.example/s02881/impl.callRules"] gs q := hV
  have hV2 := hV1
  obtain ⟨gg, tt, cs, fu, dv, pv, rfl, hgg, htt, hvar, hvt, hpv⟩ := trodVars_one hV2
  have k0 := h0
  have lt0 : ∀ x ∈ p0, x.block < W.heap.size := by obtain ⟨m, hm⟩ := k0; exact DataW.trod_lt m _ _ _ hm
  obtain ⟨a0, len0, cap0, rfl⟩ := okWide_slice Tryz.underlying22 (hval 0 22 v0 rfl rfl)
  obtain ⟨fuel, hf⟩ := h0
  obtain ⟨a, n, ca, xs, e0, hn, hr, hx⟩ := open_bytes hf
  simp only [Value.cells, List.cons.injEq, Value.slice.injEq, and_true] at e0
  obtain ⟨rfl, rfl, rfl⟩ := e0
  clear hA0 hval0
  rw [MakeChecks.laidMetH_plain _ _ _ (by kernel_rfl)] at hX
  have hR := rules_reads (Lib.laidMet.reads hX (n := "loop.example/s02881/impl.callRules") (d := Rows.laid_loop_example_s02881_impl_callRules) (by simp [Rows.fnSpaceRow]))
  have hw0 : 0 < W.heap.size := World.block_lt_of_cell? W _ hR.write.1
  refine (law_any a0 len0 cap0 xs W hr hx hR hw0).mono fun e W' ⟨he, bel⟩ => ?_
  subst he
  exact ⟨_, rfl, _, _, _, [], _, _, hW', trodAll_mk1 (shut_bool Tryz.underlying4 _), (trodAll_cons_mk (Below.trod laidOut (by kernel_rfl) (of_decide_eq_true (by kernel_rfl)) k0 bel lt0) trodAll_mk0), Below.trodVars laidOut bel (by kernel_rfl) hV1, bel.frame _, fun h => by cases h⟩

theorem space_over : Rows.fnSpaceRow.holds Tryz.pinned (OpenSpec.ofChange Rows.fnSpaceSpec) :=
  OpenClaim.holds_of_wide 3 Tryz.f3 rfl rfl rfl rfl rfl rfl rfl ⟨rfl, rfl, rfl, rfl, rfl⟩ rfl rfl rfl rfl rfl (by kernel_rfl) Tryz.func3 (by kernel_rfl)
    (of_decide_eq_true (by kernel_rfl)) (by unfold Func.isWrapper; first | (rw [if_pos (by decide +kernel)]; kernel_rfl) | (rw [if_neg (by decide +kernel)]; exact ⟨rfl, rfl⟩))
    (fun os started H enc _ => space_lifted os started H enc)

theorem space_holds : Rows.FnSpaceSaid := space_over
theorem space_card : Rows.FnSpaceCardSaid := by
  refine ⟨Claim7.tied_new_at .later [.data, .data, .pinned] true (Claim7.new_of_sixth space_holds (true, "1f5d9e29f5ba241a5902b900fd5797212b321844d3a278afec0d4615cf1f1747") true rfl ⟨rfl, rfl⟩ (by kernel_rfl) rfl (fun f fn hf hfn => ?_)) (by kernel_rfl), (fun D hD => by cases hD), fnSpace_row_tie, (fun h => by cases h), by kernel_rfl⟩
  obtain rfl : f = 3 := Option.some.inj ((show Tryz.prog.funcNamed "loop.example/s02881/laws.FnSpace" = some 3 by kernel_rfl).symm.trans hf) |>.symm
  obtain rfl : fn = Tryz.f3 := (Option.some.inj (Tryz.func3.symm.trans hfn)).symm
  exact ⟨by kernel_rfl, fun j t ht => by
    rw [Tryz.params3] at ht
    have hm : t ∈ [22] := by simpa using Array.mem_of_getElem? ht
    have hall : ([22].all fun u => !Tryz.prog.wantsStandIn u) = true := by kernel_rfl
    exact (show Tryz.prog.wantsStandIn t = false by simpa using List.all_eq_true.1 hall t hm)⟩
#print axioms space_holds
#print axioms space_card
end Go.Proofs.YtonpdbajoidigaaGreatDoor
