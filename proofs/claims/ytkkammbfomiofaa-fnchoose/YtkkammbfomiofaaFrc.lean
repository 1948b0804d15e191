/-
  The program's FreeLids.
-/
import Derived.Test.YtkkammbfomiofaaFri
namespace Go.Proofs.Ytkkammbfomiofaa
open Go.RowKit Go.Shelf
set_option linter.unusedSimpArgs false
set_option linter.unusedVariables false

attribute [local go_sem] Oper.semAt_some

/-- What FreeLids answers. -/
def freeR (es : List (Int × Bool)) (len : Nat) (nn : Int) : List Int := if 0 ≤ nn ∧ nn ≤ ((freeL es len).length : Int) then (freeL es len).take nn.toNat else []

theorem freeR_full {es : List (Int × Bool)} {len : Nat} {nn : Int} (h : ((freeL es len).length : Int) = nn) : freeR es len nn = freeL es len := by
  unfold freeR
  rw [if_pos (by omega)]
  exact List.take_of_length_le (by omega)
theorem freeR_none {es : List (Int × Bool)} {len : Nat} {nn : Int} (h : ¬ ((freeL es len).length : Int) = nn) (hle : ((freeL es len).length : Int) ≤ max 0 nn) : freeR es len nn = [] := by
  unfold freeR
  by_cases h0 : 0 ≤ nn
  · rw [if_neg (by omega)]
  · rw [if_neg (by omega)]
theorem freeR_neg {es : List (Int × Bool)} {len : Nat} {nn : Int} (h : nn < 0) : freeR es len nn = [] := by
  unfold freeR
  rw [if_neg (by omega)]
theorem freeR_stop {es : List (Int × Bool)} {len : Nat} {nn : Int} {pre : List Int} (hp : pre <+: freeL es len) (h : (pre.dropLast.length : Int) = nn) : freeR es len nn = pre.dropLast := by
  have hq : pre.dropLast <+: freeL es len := (List.dropLast_prefix pre).trans hp
  have hl := hq.length_le
  unfold freeR
  rw [if_pos (by omega), show nn.toNat = pre.dropLast.length from by omega]
  exact (List.prefix_iff_eq_take.1 hq).symm
theorem owns_baseL {w : World} {B B' e sz n : Nat} {s : Value} {xs : List Value} (h : w.ownsRow B e sz s n xs) (hB : B' ≤ B) : w.ownsRow B' e sz s n xs := by
  refine ⟨h.1, h.2.imp id ?_⟩
  rintro ⟨g, cap, cur, e1, hg, rest⟩
  exact ⟨g, cap, cur, e1, by omega, rest⟩
theorem owns_shapeL {w : World} {B e sz n : Nat} {v : Value} {xs : List Value} (h : w.ownsRow B e sz v n xs) : ∃ a c, v = .slice a n c := by
  rcases h.2 with ⟨rfl, h0⟩ | ⟨g, cap, cur, rfl, _⟩
  · exact ⟨none, 0, by rw [h0]⟩
  · exact ⟨_, _, rfl⟩

set_option maxRecDepth 100000 in
set_option maxHeartbeats 4000000 in
theorem freeLids_fence (F : Fence) (n : Nat) (h49 : F.fn 22) (h83 : F.fn 57) (h95 : F.fn 67) (hro : F.round = none) (hn : 3 ≤ n) (a : Option Addr) (len ca : Nat) (es : List (Int × Bool)) (nn : Int) (w : World) (ha : ERead w a len es) (hlen : len ≤ 2097152) :
    CallsIn F n Try.prog 22 #[.slice a len ca, .int .i64 nn] w fun e W' => ∃ v, e = .returned v ∧ W'.ownsRow w.heap.size 2 1 v (freeR es len nn).length ((freeR es len nn).map (Value.int .i64)) ∧ Below w.heap.size w W' := by
  have h1 : 1 ≤ n := by omega
  obtain ⟨i0, hi, hz0, hz1, hz2⟩ := info_parts info2
  have HA : Hid (ERead w a len es) := ha
  have HLow : Hid (∀ g off, a = some ⟨g, off, none⟩ → 0 < len → g < w.heap.size) := by
    show ∀ g off, a = some ⟨g, off, none⟩ → 0 < len → g < w.heap.size
    intro g off e hl
    rcases ha.2 with h | ⟨g', off', e', hc⟩
    · omega
    · rw [e'] at e
      injection e with e
      injection e with e1 e2 e3
      subst e1
      exact World.block_lt_of_cell? w _ (hc 0 hl).1
  clear ha
  refine callsIn_of_wp_marks Try.func22 rfl h49 ?_ hro
  simp only [Try.ntmps22, List.size_toArray, List.length_cons, List.length_nil, Nat.reduceAdd, Nat.reduceSub, Array.replicate_succ, Array.replicate_zero, List.push_toArray, List.append_toArray, List.nil_append, List.cons_append]
  gi_wp2_with (gi_at_call 57; refine (freeLids_in F (n - 1) h83 hro _ _ _ _).mono ?_; rintro e w' ⟨rfl, rfl⟩)
  have hB0 : Below w.heap.size w ((((w.alloc (.cells #[.int .i64 nn] 2)).alloc (.cells #[] 2)).alloc (.cells #[.slice (some ⟨w.heap.size + 1, 0, none⟩) 0 0] 40)).alloc (.cells #[.slice a len ca] 48)) := ((((Below.refl _ w).alloc (Nat.le_refl _) _).alloc (by simp) _).alloc (by simp; omega) _).alloc (by simp; omega) _
  have bN : Boxed ((((w.alloc (.cells #[.int .i64 nn] 2)).alloc (.cells #[] 2)).alloc (.cells #[.slice (some ⟨w.heap.size + 1, 0, none⟩) 0 0] 40)).alloc (.cells #[.slice a len ca] 48)) w.heap.size 2 (.int .i64 nn) := (((Boxed.new w 2 (.int .i64 nn)).alloc _).alloc _).alloc _
  have bL : Boxed ((((w.alloc (.cells #[.int .i64 nn] 2)).alloc (.cells #[] 2)).alloc (.cells #[.slice (some ⟨w.heap.size + 1, 0, none⟩) 0 0] 40)).alloc (.cells #[.slice a len ca] 48)) (w.heap.size + 1 + 1) 40 (.slice (some ⟨w.heap.size + 1, 0, none⟩) 0 0) := by
    have := (Boxed.new ((w.alloc (.cells #[.int .i64 nn] 2)).alloc (.cells #[] 2)) 40 (.slice (some ⟨w.heap.size + 1, 0, none⟩) 0 0)).alloc (.cells #[.slice a len ca] 48)
    simpa using this
  have bT : Boxed ((((w.alloc (.cells #[.int .i64 nn] 2)).alloc (.cells #[] 2)).alloc (.cells #[.slice (some ⟨w.heap.size + 1, 0, none⟩) 0 0] 40)).alloc (.cells #[.slice a len ca] 48)) (w.heap.size + 1 + 1 + 1) 48 (.slice a len ca) := by
    have := Boxed.new (((w.alloc (.cells #[.int .i64 nn] 2)).alloc (.cells #[] 2)).alloc (.cells #[.slice (some ⟨w.heap.size + 1, 0, none⟩) 0 0] 40)) 48 (.slice a len ca)
    simpa using this
  have rE : ((((w.alloc (.cells #[.int .i64 nn] 2)).alloc (.cells #[] 2)).alloc (.cells #[.slice (some ⟨w.heap.size + 1, 0, none⟩) 0 0] 40)).alloc (.cells #[.slice a len ca] 48)).ownsRow (w.heap.size + 1) 2 1 (.slice (some ⟨w.heap.size + 1, 0, none⟩) 0 0) 0 [] := by
    have h0 : ((w.alloc (.cells #[.int .i64 nn] 2)).alloc (.cells #[] 2)).heap[w.heap.size + 1]? = some (.cells #[] 2 (0, 0)) := by
      have := heap_alloc_new (w.alloc (.cells #[.int .i64 nn] 2)) (.cells #[] 2)
      simpa using this
    have h2 : ((w.alloc (.cells #[.int .i64 nn] 2)).alloc (.cells #[] 2)).ownsRow (w.heap.size + 1) 2 1 (.slice (some ⟨w.heap.size + 1, 0, none⟩) 0 0) 0 [] := ⟨rfl, .inr ⟨_, 0, #[], rfl, Nat.le_refl _, h0, Nat.le_refl _, Nat.zero_le _, rfl, rfl⟩⟩
    exact (h2.alloc _).alloc _
  have hS := lids_stops F (n - 1) h95 hro (by omega) (w.heap.size + 1 + 1 + 1) w.heap.size a len ca es hlen _ bT.lt hB0.size bT.cell (HA.out.below hB0) HLow.out
  have hsz : w.heap.size + 4 ≤ ((((w.alloc (.cells #[.int .i64 nn] 2)).alloc (.cells #[] 2)).alloc (.cells #[.slice (some ⟨w.heap.size + 1, 0, none⟩) 0 0] 40)).alloc (.cells #[.slice a len ca] 48)).heap.size := by simp
  generalize hW0 : ((((w.alloc (.cells #[.int .i64 nn] 2)).alloc (.cells #[] 2)).alloc (.cells #[.slice (some ⟨w.heap.size + 1, 0, none⟩) 0 0] 40)).alloc (.cells #[.slice a len ca] 48)) = W0 at *
  clear hW0 bT
  refine wpIn_rangeFunc_ownG hro h1 (gf := 67) (lb := #[.pointer (some ⟨w.heap.size + 1 + 1 + 1, 0, none⟩)]) rfl h95 (enters_of Try.func67 (by kernel_rfl) rfl)
    hS belowK_t (belowK_b (by omega)) (Below.refl _ _) (fun _ => rfl)
    (fun pre W => (∃ v, Boxed W (w.heap.size + 1 + 1) 40 v ∧ W.ownsRow (w.heap.size + 1) 2 1 v pre.length (pre.map (Value.int .i64)) ∧ True) ∧ (Boxed W w.heap.size 2 (.int .i64 nn) ∧ (((pre.length : Int) ≤ max 0 nn) ∧ Below w.heap.size w W)))
    (fun c pre W => (∃ v, Boxed W (w.heap.size + 1 + 1) 40 v ∧ W.ownsRow (w.heap.size + 1) 2 1 v pre.dropLast.length (pre.dropLast.map (Value.int .i64)) ∧ c = .exit 0) ∧ (Boxed W w.heap.size 2 (.int .i64 nn) ∧ ((nn ≤ (pre.dropLast.length : Int) ∧ (pre.dropLast.length : Int) ≤ max 0 nn) ∧ Below w.heap.size w W)))
    (OwnFrom.and (Own.from (holdsRow_own (w.heap.size + 1) (w.heap.size + 1 + 1) 40 2 1 (fun pre : List Int => pre.length) (fun pre => pre.map (Value.int .i64)) (fun _ _ => True)) _) (OwnFrom.and (Own.from (boxed_own w.heap.size 2 (fun _ => .int .i64 nn)) _) (OwnFrom.and (ownFrom_pure _ (fun pre : List Int => (pre.length : Int) ≤ max 0 nn)) (ownFrom_below (Nat.le_refl _) (by omega)))))
    (fun c => OwnFrom.and (Own.from (holdsRow_own (w.heap.size + 1) (w.heap.size + 1 + 1) 40 2 1 (fun pre : List Int => pre.dropLast.length) (fun pre => pre.dropLast.map (Value.int .i64)) (fun _ _ => c = .exit 0)) _) (OwnFrom.and (Own.from (boxed_own w.heap.size 2 (fun _ => .int .i64 nn)) _) (OwnFrom.and (ownFrom_pure _ (fun pre : List Int => nn ≤ (pre.dropLast.length : Int) ∧ (pre.dropLast.length : Int) ≤ max 0 nn)) (ownFrom_below (Nat.le_refl _) (by omega)))))
    ⟨⟨_, bL, rE, trivial⟩, bN, by show (0 : Int) ≤ max 0 nn; omega, hB0⟩
    (fun x => { tmps := #[.slice a len ca, .int .i64 nn, undef, .pointer (some ⟨w.heap.size, 0, none⟩), .slice none 0 0, .pointer (some ⟨w.heap.size + 1 + 1, 0, none⟩), .int .i64 x, .slice (some ⟨w.heap.size + 1, 0, none⟩) 0 0, .slice a len ca, .func (.func 67) #[] #[.pointer (some ⟨w.heap.size + 1 + 1 + 1, 0, none⟩)], .int .i64 x, undef, undef, undef, undef, undef, undef, undef, undef, undef, undef, undef, undef, undef, undef], defers := [] }) ?assign ?body ?done ?stop
  case assign =>
    intro l x W K hK
    gi_wp2
    exact hK
  case body =>
    rintro l pre x W ⟨⟨v, hv, hrow, _⟩, hbn, hle, hB⟩ hlt
    have hc := hv.cell
    have hcn := hbn.cell
    obtain ⟨av, cv, rfl⟩ := owns_shapeL hrow
    have sB := hB.size
    have sv := hv.lt
    by_cases hge : nn ≤ (pre.length : Int)
    · have e : (pre ++ [x]).dropLast = pre := by simp
      gi_wp2
      exact ⟨KeepsFrom.refl _ _, ⟨_, hv, by rw [e]; exact hrow, rfl⟩, hbn, ⟨by rw [e]; exact hge, by rw [e]; exact hle⟩, hB⟩
    · have hlt2 : (pre.length : Int) < nn := by omega
      have hle2 : ((pre ++ [x]).length : Int) ≤ max 0 nn := by rw [List.length_append]; simp; omega
      gi_wp2_with (gi_at_builtin; refine wpListIn_append_own _ rfl _ _ 40 rfl (w.heap.size + 1) 2 i0 (.int .i64 0) 1 8 Try.underlying40 hi hz0 hz1 hz2 rfl (by decide) _ _ _ rfl (hrow.alloc _) ⟨W.heap.size, 0, none⟩ 1 1 [.int .i64 x] rfl rfl (cell_one_new _ _ _) (by simp [Value.oneCell']) (by unfold maxLen; omega) (by omega) (by simp; omega) ?_; intro v' w1 hown' hgrow _; obtain ⟨g', cap', rfl⟩ := ownsRow_succ hown'; obtain ⟨hv1, hv2, hr2, hk2, hb2⟩ := hv.appended (by decide) hrow (by omega) (by omega) hown' hgrow; have hc1 := hv1.cell; have hf1 := hv1.frozen)
      exact ⟨hk2.from _, hb2.mono (by omega), ⟨_, hv2, by simpa using hr2⟩, (hb2.block w.heap.size (by omega)).trans hbn, hle2, hB.trans (hb2.mono (by omega))⟩
  case done =>
    rintro D ys W hD rfl ⟨⟨v, hv, hrow, _⟩, hbn, hle, hB⟩ hK
    have hc := hv.cell
    have hcn := hbn.cell
    obtain ⟨av, cv, rfl⟩ := owns_shapeL hrow
    have lD := (Array.getElem?_eq_some_iff.1 hK).1
    have hrow' := owns_baseL hrow (B' := w.heap.size) (by omega)
    by_cases heq : ((freeL es len).length : Int) = nn
    · have u1 : (((freeL es len).length : Int) != nn) = false := by rw [heq]; simp
      have HR : Hid (freeR es len nn = freeL es len) := freeR_full heq
      have HE : Hid (((freeL es len).length : Int) = nn) := heq
      clear heq
      gi_wp2
      refine ⟨by simp, .inl ⟨_, _, rfl, run_takeDeferred hK, ?_⟩⟩
      exact ⟨_, results_tmp rfl _ _ _, _, rfl, by rw [HR.out]; exact ownsRow_putObj hrow' _ hK rfl, hB.trans (belowK_b (w := w) (Nat.le_refl _) W D _ _ (by omega) hK rfl rfl)⟩
    · have u1 : (((freeL es len).length : Int) != nn) = true := by simpa using heq
      have HR : Hid (freeR es len nn = []) := freeR_none heq hle
      have hK' : ∀ o, (W.alloc o).heap[D]? = some (.deferred (some [])) := fun o => (Below.heap_alloc W o D lD).trans hK
      have rN : (W.alloc (.cells #[] 2)).ownsRow w.heap.size 2 1 (.slice (some ⟨W.heap.size, 0, none⟩) 0 0) 0 [] := ⟨rfl, .inr ⟨_, 0, #[], rfl, hB.size, heap_alloc_new W _, Nat.le_refl _, Nat.zero_le _, rfl, rfl⟩⟩
      have hBN := fun o => hB.alloc hB.size o
      clear heq
      gi_wp2
      refine ⟨by simp, .inl ⟨_, _, rfl, run_takeDeferred (hK' _), ?_⟩⟩
      exact ⟨_, results_tmp rfl _ _ _, _, rfl, by rw [HR.out]; exact ownsRow_putObj rN _ (hK' _) rfl, (hBN _).trans (belowK_b (w := w) (Nat.le_refl _) _ D _ _ (by omega) (hK' _) rfl rfl)⟩
  case stop =>
    rintro D c pre W hD hpre ⟨⟨v, hv, hrow, rfl⟩, hbn, ⟨hge, hle⟩, hB⟩ hK
    obtain ⟨L, hL⟩ : ∃ L, pre.dropLast = L := ⟨_, rfl⟩
    rw [hL] at hrow hge hle
    have HS : Hid ((L.length : Int) = nn → freeR es len nn = L) := fun h => by rw [← hL]; exact freeR_stop hpre (by rw [hL]; exact h)
    clear hL hpre
    have hc := hv.cell
    have hcn := hbn.cell
    obtain ⟨av, cv, rfl⟩ := owns_shapeL hrow
    have lD := (Array.getElem?_eq_some_iff.1 hK).1
    have hrow' := owns_baseL hrow (B' := w.heap.size) (by omega)
    by_cases heq : (L.length : Int) = nn
    · have u1 : ((L.length : Int) != nn) = false := by rw [heq]; simp
      have HR : Hid (freeR es len nn = L) := HS.out heq
      have HE : Hid ((L.length : Int) = nn) := heq
      clear heq
      gi_wp2
      refine ⟨by simp, .inl ⟨_, _, rfl, run_takeDeferred hK, ?_⟩⟩
      exact ⟨_, results_tmp rfl _ _ _, _, rfl, by rw [HR.out]; exact ownsRow_putObj hrow' _ hK rfl, hB.trans (belowK_b (w := w) (Nat.le_refl _) W D _ _ (by omega) hK rfl rfl)⟩
    · have u1 : ((L.length : Int) != nn) = true := by simpa using heq
      have HR : Hid (freeR es len nn = []) := freeR_neg (by omega)
      have hK' : ∀ o, (W.alloc o).heap[D]? = some (.deferred (some [])) := fun o => (Below.heap_alloc W o D lD).trans hK
      have rN : (W.alloc (.cells #[] 2)).ownsRow w.heap.size 2 1 (.slice (some ⟨W.heap.size, 0, none⟩) 0 0) 0 [] := ⟨rfl, .inr ⟨_, 0, #[], rfl, hB.size, heap_alloc_new W _, Nat.le_refl _, Nat.zero_le _, rfl, rfl⟩⟩
      have hBN := fun o => hB.alloc hB.size o
      clear heq
      gi_wp2
      refine ⟨by simp, .inl ⟨_, _, rfl, run_takeDeferred (hK' _), ?_⟩⟩
      exact ⟨_, results_tmp rfl _ _ _, _, rfl, by rw [HR.out]; exact ownsRow_putObj rN _ (hK' _) rfl, (hBN _).trans (belowK_b (w := w) (Nat.le_refl _) _ D _ _ (by omega) (hK' _) rfl rfl)⟩

theorem freeLids_impl (a : Option Addr) (len ca : Nat) (es : List (Int × Bool)) (nn : Int) (w : World) (ha : ERead w a len es) (hlen : len ≤ 2097152) :
    Calls Try.prog 22 #[.slice a len ca, .int .i64 nn] w fun e W' => ∃ v, e = .returned v ∧ W'.ownsRow w.heap.size 2 1 v (freeR es len nn).length ((freeR es len nn).map (Value.int .i64)) ∧ Below w.heap.size w W' :=
  callsIn_wide.1 (freeLids_fence Fence.wide 3 trivial trivial trivial rfl (by omega) a len ca es nn w ha hlen)
end Go.Proofs.Ytkkammbfomiofaa
