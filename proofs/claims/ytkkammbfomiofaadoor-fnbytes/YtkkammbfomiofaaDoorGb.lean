/-
  Put, Pad, Blk.
-/
import Derived.Test.YtkkammbfomiofaaDoorGa
import Derived.Deep.RegionLaw
import Derived.Laws.CopyOwn
import Derived.Laws.Tables
/-
  put: numbers of given widths, one behind the other.
-/
namespace Go.Proofs.YtkkammbfomiofaaDoor
open Go.RowKit
set_option linter.unusedSimpArgs false
set_option linter.unusedVariables false

theorem beB_get (n : Nat) : ∀ (v : Int) (j : Nat), j < n → (beB v n)[j]? = some ((v / (256 : Int) ^ (n - 1 - j)) % 256) := by
  induction n with
  | zero => intro v j h; omega
  | succ n ih =>
    intro v j h
    rw [beB]
    by_cases hj : j < n
    · rw [List.getElem?_append_left (by rw [beB_len]; exact hj), ih (v / 256) j hj]
      have e : n + 1 - 1 - j = (n - 1 - j) + 1 := by omega
      rw [e, Int.pow_succ, Int.mul_comm, ← Int.ediv_ediv_of_nonneg (by decide)]
    · have e : j = n := by omega
      subst e
      rw [List.getElem?_append_right (by rw [beB_len]; exact Nat.le_refl _), beB_len]
      simp

/-- The widths and values that lie in memory. -/
def nW (ns : List (Int × Int)) (i : Nat) : Int := (ns[i]?.getD (0, 0)).1
def nV (ns : List (Int × Int)) (i : Nat) : Int := (ns[i]?.getD (0, 0)).2
def NRead (w : World) (a : Option Addr) (m : Nat) (ns : List (Int × Int)) : Prop :=
  ns.length = m ∧ (m = 0 ∨ ∃ g off, a = some ⟨g, off, none⟩ ∧ ∀ i, i < m → w.cell? ⟨g, off + i * 2, none⟩ = some (.int .i64 (nW ns i)) ∧ w.cell? ⟨g, off + i * 2 + 1, none⟩ = some (.int .i64 (nV ns i)))
def NOk (m : Nat) (ns : List (Int × Int)) : Prop := ∀ i, i < m → (0 ≤ nW ns i ∧ nW ns i ≤ 64) ∧ 0 ≤ nV ns i ∧ nV ns i ≤ 4611686018427387904
/-- All bytes. -/
def putL (ns : List (Int × Int)) : List Int := ns.flatMap fun x => beB x.2 x.1.toNat
theorem putL_take_succ (ns : List (Int × Int)) (k : Nat) (h : k < ns.length) : putL (ns.take (k + 1)) = putL (ns.take k) ++ beB (nV ns k) (nW ns k).toNat := by
  rw [List.take_succ_eq_append_getElem h]
  simp only [putL, List.flatMap_append, List.flatMap_cons, List.flatMap_nil, List.append_nil, nV, nW, List.getElem?_eq_getElem h, Option.getD_some]
theorem putL_len (m : Nat) (ns : List (Int × Int)) (hl : ns.length = m) (h : NOk m ns) : ∀ k, k ≤ m → (putL (ns.take k)).length ≤ k * 64
  | 0, _ => by simp [putL]
  | k + 1, hk => by
    rw [putL_take_succ ns k (by omega), List.length_append, beB_len]
    have := putL_len m ns hl h k (by omega)
    have := (h k (by omega)).1
    omega

/-- v without its lowest i bytes. -/
def shf (v : Int) (i : Nat) : Int := v / (256 : Int) ^ i
theorem shf_bound (v : Int) (i : Nat) (h0 : 0 ≤ v) : 0 ≤ shf v i ∧ shf v i ≤ v := by
  have hp : (0 : Int) < (256 : Int) ^ i := Int.pow_pos (by decide)
  exact ⟨Int.ediv_nonneg h0 (Int.le_of_lt hp), Int.ediv_le_self _ h0⟩
theorem shf_pow (v : Int) (i : Nat) (h0 : 0 ≤ v) (h1 : v ≤ 4611686018427387904) : v / (2 : Int) ^ (min (8 * i) 64) = shf v i := by
  unfold shf
  by_cases h : 8 * i ≤ 64
  · rw [Nat.min_eq_left h]
    congr 1
    rw [Int.pow_mul]; rfl
  · rw [Nat.min_eq_right (by omega)]
    have e : ((256 : Int) ^ i) = ((256 ^ i : Nat) : Int) := by simp
    have g : (256 : Nat) ^ 8 ≤ 256 ^ i := Nat.pow_le_pow_right (by decide) (by omega)
    have g8 : (256 : Nat) ^ 8 = 18446744073709551616 := by decide
    rw [Int.ediv_eq_zero_of_lt h0 (by omega), Int.ediv_eq_zero_of_lt h0 (by rw [e]; omega)]
theorem shf_run (v : Int) (wd j : Nat) (h0 : 0 ≤ v) (h1 : v ≤ 4611686018427387904) (hj : j < wd) (w : World) :
    Sem.run Tryd.prog (Op.shift BinOp.shr IntKind.i64 v IntKind.i64 (8 * ((wd : Int) - 1 - j))) w = .ok (.int .i64 (shf v (wd - 1 - j))) w := by
  rw [shift_shr_any _ _ _ _ (by omega), show (8 * ((wd : Int) - 1 - j)).toNat = 8 * (wd - 1 - j) from by omega]
  have := shf_pow v (wd - 1 - j) h0 h1
  rw [show IntKind.i64.bits = 64 from rfl, this]
  rfl
theorem beB_take_succ (v : Int) (wd j : Nat) (hj : j < wd) : (beB v wd).take (j + 1) = (beB v wd).take j ++ [shf v (wd - 1 - j) % 256] := by
  have h := beB_get wd v j hj
  have hl : j < (beB v wd).length := by rw [beB_len]; exact hj
  rw [List.take_succ_eq_append_getElem hl]
  rw [List.getElem?_eq_getElem hl, Option.some.injEq] at h
  rw [h]; rfl

theorem owns_ne {w : World} {B n h : Nat} {s : Value} {xs : List Value} {c : Array Value} {f : Nat × Nat} (ho : w.ownsRow B 5 1 s n xs) (hh : w.heap[h]? = some (.cells c 68 f)) : some h ≠ s.ownBlock := by
  rcases ho.2 with ⟨rfl, _⟩ | ⟨g, cap, cur, rfl, _, hg, _⟩
  · simp [Value.ownBlock]
  · simp only [Value.ownBlock, ne_eq, Option.some.injEq]
    intro e
    subst e
    rw [hh] at hg
    simp at hg

theorem two_cellsB {w1 : World} {g : Nat} {t : TypeId} {x y : Value} (h : w1.heap[g]? = some (.cells #[x, y] t (0, 0))) :
    w1.cell? ⟨g, 0, none⟩ = some x ∧ w1.cell? ⟨g, 1, none⟩ = some y ∧ w1.frozen? ⟨g, 0, none⟩ = false ∧ w1.frozen? ⟨g, 1, none⟩ = false := by
  refine ⟨by rw [cell_of_row w1 g 0 _ _ _ h]; rfl, by rw [cell_of_row w1 g 1 _ _ _ h]; rfl, ?_, ?_⟩ <;> simp [World.frozen?, h]

set_option maxHeartbeats 2000000 in
set_option maxRecDepth 100000 in
theorem put_any (a : Option Addr) (m ca : Nat) (ns : List (Int × Int)) (w : World) (ha : NRead w a m ns) (hok : NOk m ns) (hm : m ≤ 4096) :
    Calls Tryd.prog 30 #[.slice a m ca] w fun e w' => ∃ s, e = .returned s ∧ w'.ownsRow w.heap.size 5 1 s (putL ns).length (u8s (putL ns)) ∧ Below w.heap.size w w' := by
  obtain ⟨i0, hi, hz0, hz1, hz2⟩ := info_parts info5
  obtain ⟨hx, ha⟩ := ha
  rcases ha with h0 | ⟨g, off, rfl, hc⟩
  · subst h0
    have he : ns = [] := List.length_eq_zero_iff.1 hx
    subst he
    clear hok
    go_enter Tryd.func30, Tryd.ntmps30
    go_wp2
    refine wp_loop_rounds 1 ?_
    rw [rounds_succ]
    go_wp2
    go_ret
    exact ⟨_, rfl, empty_owned w, (Below.refl _ _).alloc (Nat.le_refl _) _⟩
  · have HX : Hid (ns.length = m) := hx
    have HK : Hid (NOk m ns) := hok
    clear hx hok
    go_enter Tryd.func30, Tryd.ntmps30
    go_wp2
    go_loopw [3, 10] (fun s i wr => ∃ k : Nat, k ≤ m ∧ i = .int .i64 k ∧ wr.ownsRow w.heap.size 5 1 s (putL (ns.take k)).length (u8s (putL (ns.take k))) ∧ Below w.heap.size w wr) (fun _ i _ => m - (intOf i).toNat)
    case atStart => exact ⟨0, Nat.zero_le _, rfl, empty_owned w, (Below.refl _ _).alloc (Nat.le_refl _) _⟩
    case round =>
      obtain ⟨k, hk, rfl, hown, hbel⟩ := hrel
      by_cases hlt : k < m
      · obtain ⟨c1, c2⟩ := hc k hlt
        rw [← hbel.cell (World.block_lt_of_cell? w _ c1)] at c1
        rw [← hbel.cell (World.block_lt_of_cell? w _ c2)] at c2
        obtain ⟨⟨b1, b2⟩, b3, b4⟩ := HK.out k hlt
        have hgl := World.block_lt_of_cell? wr _ c1
        simp only at hgl
        clear hc
        have HP : Hid (putL (ns.take (k + 1)) = putL (ns.take k) ++ beB (nV ns k) (nW ns k).toNat) := putL_take_succ ns k (by rw [HX.out]; exact hlt)
        have hpl := putL_len m ns HX.out HK.out k hk
        obtain ⟨wd, hwd⟩ := Int.eq_ofNat_of_zero_le b1
        rw [hwd] at c1 b2 HP
        rw [Int.toNat_natCast] at HP
        generalize nV ns k = v at *
        generalize putL (ns.take k) = P at *
        clear b1 hwd
        go_wp2
        go_loopw [3, 6] (fun s i w2 => ∃ j : Nat, j ≤ wd ∧ i = .int .i64 ((wd : Int) - 1 - j) ∧ w2.ownsRow w.heap.size 5 1 s (P.length + j) (u8s (P ++ (beB v wd).take j)) ∧ Below w.heap.size w w2 ∧ w2.heap[wr.heap.size]? = some (.cells #[.int .i64 wd, .int .i64 v] 68 (0, 0))) (fun _ i _ => (intOf i + 1).toNat)
        case atStart => exact ⟨0, Nat.zero_le _, by simp, by simpa using hown.alloc _, hbel.alloc hbel.size _, heap_alloc_new wr _⟩
        case round =>
          obtain ⟨j, hj, rfl, hown2, hbel2, hvar⟩ := hrel
          by_cases hjl : j < wd
          · obtain ⟨q1, q2, _, _⟩ := two_cellsB hvar
            have hsh := fun w => shf_run v wd j b3 b4 hjl w
            obtain ⟨f1, f2⟩ := shf_bound v (wd - 1 - j) b3
            have hne := owns_ne hown2 hvar
            have hsz := hbel2.size
            have HS : Hid (u8s (P ++ (beB v wd).take (j + 1)) = u8s (P ++ (beB v wd).take j) ++ [.int .u8 (shf v (wd - 1 - j) % 256)]) := by
              show _ = _
              rw [beB_take_succ v wd j hjl, ← List.append_assoc, u8s_append]; rfl
            have HV : Hid (wr.heap[_]? = _) := hvar
            have hvl := (Array.getElem?_eq_some_iff.1 hvar).1
            generalize shf v (wd - 1 - j) = x at *
            clear hvar
            go_wp2_with (at_builtin; refine wpList_append_own _ rfl _ _ 22 rfl w.heap.size 5 i0 (.int .u8 0) 1 1 Tryd.underlying22 hi hz0 hz1 hz2 rfl (by decide) _ _ _ rfl (hown2.alloc _) ⟨wr.heap.size, 0, none⟩ 1 1 [.int .u8 (x % 256)] rfl rfl one_cell (one_u8 _) ?c3 ?c4 ?c5 ?_)
            case c3 => unfold maxLen; omega
            case c4 => omega
            case c5 => simp; omega
            intro s' w3 hown3 hgrow _
            have hb3 : Below w.heap.size w w3 := (hbel2.alloc hsz _).grown hgrow (by simp; omega) (fun k hk => (hown2.lt k hk).1)
            have hv3 := ((hgrow.block _ (by simp; omega) hne).trans (heap_alloc_old wr _ hvl)).trans HV.out
            have hown4 : w3.ownsRow w.heap.size 5 1 s' (P.length + (j + 1)) (u8s (P ++ (beB v wd).take (j + 1))) := by rw [HS.out, ← Nat.add_assoc]; exact hown3
            clear hown3 hown2 hgrow hsh hne HS
            go_wp2
            go_roundw
            case rel => exact ⟨j + 1, by omega, by go_num, hown4, hb3, hv3⟩
            case measure => simp [intOf]; omega
          · have hjw : j = wd := by omega
            subst hjw
            have hown3 : wr.ownsRow w.heap.size 5 1 u3 (putL (ns.take (k + 1))).length (u8s (putL (ns.take (k + 1)))) := by
              rw [HP.out, List.length_append, beB_len]
              rwa [List.take_of_length_le (by rw [beB_len]; exact Nat.le_refl _)] at hown2
            clear hvar hown2
            go_wp2
            go_roundw
            case rel => exact ⟨k + 1, by omega, by go_num, hown3, hbel2⟩
            case measure => simp [intOf]; omega
      · have hkm : k = m := by omega
        subst hkm
        rw [List.take_of_length_le (by rw [HX.out]; exact Nat.le_refl _)] at hown
        clear hc
        go_wp2
        go_ret
        exact ⟨_, rfl, hown, hbel⟩
end Go.Proofs.YtkkammbfomiofaaDoor

/-
  l1Copy, l2Pad.
-/
namespace Go.Proofs.YtkkammbfomiofaaDoor
open Go.RowKit
set_option linter.unusedSimpArgs false
set_option linter.unusedVariables false

theorem u8s_take_succ (xs : List Int) (k : Nat) (h : k < xs.length) : u8s (xs.take (k + 1)) = u8s (xs.take k) ++ [.int .u8 (xs[k]?.getD 0)] := by
  rw [List.take_succ_eq_append_getElem h, u8s_append]; simp [u8s, List.getElem?_eq_getElem h]

set_option maxHeartbeats 1000000 in
theorem l1Copy_any (a : Option Addr) (n ca : Nat) (xs : List Int) (w : World) (ha : IRow .u8 w a n xs) (hn : n ≤ 2097152) :
    Calls Tryd.prog 46 #[.slice a n ca] w fun e w' => ∃ s, e = .returned s ∧ w'.ownsRow w.heap.size 5 1 s n (u8s xs) ∧ Below w.heap.size w w' := by
  obtain ⟨i0, hi, hz0, hz1, hz2⟩ := info_parts info5
  obtain ⟨hx, ha⟩ := ha
  rcases ha with h0 | ⟨g, off, rfl, hc⟩
  · subst h0
    have he : xs = [] := List.length_eq_zero_iff.1 hx
    subst he
    go_enter Tryd.func46, Tryd.ntmps46
    go_wp2
    refine wp_loop_rounds 1 ?_
    rw [rounds_succ]
    go_wp2
    go_ret
    exact ⟨_, rfl, empty_owned w, (Below.refl _ _).alloc (Nat.le_refl _) _⟩
  · have HX : Hid (xs.length = n) := hx
    clear hx
    go_enter Tryd.func46, Tryd.ntmps46
    go_wp2
    go_loopw [3, 4] (fun s i wr => ∃ k : Nat, k ≤ n ∧ i = .int .i64 k ∧ wr.ownsRow w.heap.size 5 1 s k (u8s (xs.take k)) ∧ Below w.heap.size w wr) (fun _ i _ => n - (intOf i).toNat)
    case atStart => exact ⟨0, Nat.zero_le _, rfl, empty_owned w, (Below.refl _ _).alloc (Nat.le_refl _) _⟩
    case round =>
      obtain ⟨k, hk, rfl, hown, hbel⟩ := hrel
      by_cases hlt : k < n
      · have c1 := hc k hlt
        rw [← hbel.cell (World.block_lt_of_cell? w _ c1)] at c1
        have HS : Hid (u8s (xs.take (k + 1)) = u8s (xs.take k) ++ [.int .u8 (xs[k]?.getD 0)]) := u8s_take_succ xs k (by rw [HX.out]; exact hlt)
        have hsz := hbel.size
        generalize xs[k]?.getD 0 = x at *
        clear hc
        go_wp2_with (at_builtin; refine wpList_append_own _ rfl _ _ 22 rfl w.heap.size 5 i0 (.int .u8 0) 1 1 Tryd.underlying22 hi hz0 hz1 hz2 rfl (by decide) _ _ _ rfl (hown.alloc _) ⟨wr.heap.size, 0, none⟩ 1 1 [.int .u8 x] rfl rfl one_cell (one_u8 _) (by unfold maxLen; omega) (by omega) (by simp; omega) ?_)
        intro s' w3 hown3 hgrow _
        have hb3 : Below w.heap.size w w3 := (hbel.alloc hsz _).grown hgrow (by simp; omega) (fun k hk => (hown.lt k hk).1)
        have hown4 : w3.ownsRow w.heap.size 5 1 s' (k + 1) (u8s (xs.take (k + 1))) := by rw [HS.out]; exact hown3
        clear hown3 hown hgrow HS c1
        go_wp2
        go_roundw
        case rel => exact ⟨k + 1, by omega, by go_num, hown4, hb3⟩
        case measure => simp [intOf]; omega
      · have hkn : k = n := by omega
        subst hkn
        rw [List.take_of_length_le (by rw [HX.out]; exact Nat.le_refl _)] at hown
        clear hc
        go_wp2
        go_ret
        exact ⟨_, rfl, hown, hbel⟩

/-- Zeros behind, up to m. -/
def padL (xs : List Int) (m : Nat) : List Int := xs ++ List.replicate (m - xs.length) 0
theorem padL_len (xs : List Int) (m : Nat) (h : xs.length ≤ m) : (padL xs m).length = m := by simp [padL]; omega

/-- The length in a slot. -/
def lenOf : Value → Nat
  | .slice _ l _ => l
  | _ => 0
theorem owns_shape {w : World} {B e sz n : Nat} {v : Value} {xs : List Value} (h : w.ownsRow B e sz v n xs) : ∃ a c, v = .slice a n c := by
  rcases h.2 with ⟨rfl, h0⟩ | ⟨g, cap, cur, rfl, _⟩
  · exact ⟨none, 0, by rw [h0]⟩
  · exact ⟨_, _, rfl⟩

set_option maxHeartbeats 1000000 in
theorem l2Pad_any (a : Option Addr) (n ca m : Nat) (xs : List Int) (w : World) (ha : IRow .u8 w a n xs) (hn : n ≤ m) (hm : m ≤ 4096) :
    Calls Tryd.prog 21 #[.slice a n ca, .int .i64 m] w fun e w' => ∃ s, e = .returned s ∧ w'.ownsRow w.heap.size 5 1 s m (u8s (padL xs m)) ∧ Below w.heap.size w w' := by
  obtain ⟨i0, hi, hz0, hz1, hz2⟩ := info_parts info5
  have HX : Hid (xs.length = n) := ha.1
  go_enter Tryd.func21, Tryd.ntmps21
  go_wp2_with fail
  refine (l1Copy_any _ _ _ xs _ ha (by omega)).mono ?_
  rintro e w1 ⟨s, rfl, hown, hb⟩
  clear ha
  go_wp2
  obtain ⟨a1, c1, rfl⟩ := owns_shape hown
  go_loopw [5] (fun s wr => ∃ (k : Nat) (ad : Option Addr) (c : Nat), k ≤ m - n ∧ s = .slice ad (n + k) c ∧ wr.ownsRow w.heap.size 5 1 (.slice ad (n + k) c) (n + k) (u8s (xs ++ List.replicate k 0)) ∧ Below w.heap.size w wr) (fun s _ => m - lenOf s)
  case atStart => exact ⟨0, a1, c1, Nat.zero_le _, rfl, by simpa using hown, hb⟩
  case round =>
    obtain ⟨k, ad, c, hk, rfl, hown, hbel⟩ := hrel
    have hsz := hbel.size
    by_cases hlt : n + k < m
    · have HS : Hid (u8s (xs ++ List.replicate (k + 1) 0) = u8s (xs ++ List.replicate k 0) ++ [.int .u8 0]) := by
        show _ = _
        rw [List.replicate_succ', ← List.append_assoc, u8s_append]; rfl
      have hlt' : ((n : Int) + (k : Int)) < (m : Int) := by omega
      go_wp2_with (at_builtin; refine wpList_append_own _ rfl _ _ 22 rfl w.heap.size 5 i0 (.int .u8 0) 1 1 Tryd.underlying22 hi hz0 hz1 hz2 rfl (by decide) _ _ _ rfl (hown.alloc _) ⟨wr.heap.size, 0, none⟩ 1 1 [.int .u8 0] rfl rfl one_cell (one_u8 _) (by unfold maxLen; omega) (by omega) (by simp; omega) ?_)
      intro s' w3 hown3 hgrow _
      have hb3 : Below w.heap.size w w3 := (hbel.alloc hsz _).grown hgrow (by simp; omega) (fun k hk => (hown.lt k hk).1)
      have hown4 : w3.ownsRow w.heap.size 5 1 s' (n + (k + 1)) (u8s (xs ++ List.replicate (k + 1) 0)) := by rw [HS.out]; exact hown3
      obtain ⟨ad', c', hs'⟩ := owns_shape hown4
      rw [hs'] at hown4 ⊢
      clear hown3 hown hgrow HS hs'
      go_wp2
      go_roundw
      case rel => exact ⟨k + 1, ad', c', by omega, rfl, hown4, hb3⟩
      case measure => simp [lenOf]; omega
    · have hkm : n + k = m := by omega
      have hfin : wr.ownsRow w.heap.size 5 1 (.slice ad (n + k) c) m (u8s (padL xs m)) := by
        rw [padL, HX.out, show m - n = k from by omega, ← hkm]; exact hown
      have hge : ¬ ((n : Int) + (k : Int)) < (m : Int) := by omega
      have HK : Hid (n + k = m) := hkm
      clear hkm hown
      go_wp2
      go_ret
      exact ⟨_, rfl, hfin, hbel⟩
end Go.Proofs.YtkkammbfomiofaaDoor

/-
  putBlock: an array of 64 bytes.
-/
namespace Go.Proofs.YtkkammbfomiofaaDoor
open Go.RowKit
set_option linter.unusedSimpArgs false
set_option linter.unusedVariables false

/-- 64 zeros. -/
def z64 : List Value := u8s (List.replicate 64 0)
theorem z64_lit : z64.toArray = #[.int .u8 0, .int .u8 0, .int .u8 0, .int .u8 0, .int .u8 0, .int .u8 0, .int .u8 0, .int .u8 0, .int .u8 0, .int .u8 0, .int .u8 0, .int .u8 0, .int .u8 0, .int .u8 0, .int .u8 0, .int .u8 0, .int .u8 0, .int .u8 0, .int .u8 0, .int .u8 0, .int .u8 0, .int .u8 0, .int .u8 0, .int .u8 0, .int .u8 0, .int .u8 0, .int .u8 0, .int .u8 0, .int .u8 0, .int .u8 0, .int .u8 0, .int .u8 0, .int .u8 0, .int .u8 0, .int .u8 0, .int .u8 0, .int .u8 0, .int .u8 0, .int .u8 0, .int .u8 0, .int .u8 0, .int .u8 0, .int .u8 0, .int .u8 0, .int .u8 0, .int .u8 0, .int .u8 0, .int .u8 0, .int .u8 0, .int .u8 0, .int .u8 0, .int .u8 0, .int .u8 0, .int .u8 0, .int .u8 0, .int .u8 0, .int .u8 0, .int .u8 0, .int .u8 0, .int .u8 0, .int .u8 0, .int .u8 0, .int .u8 0, .int .u8 0] := by rfl
theorem z64_len : z64.length = 64 := by rfl
theorem info5s : (Tryd.prog.info? 5).map (·.size) = some 1 := by kernel_rfl
theorem info52b : (Tryd.prog.info? 52).map (·.size) = some 64 := by kernel_rfl

theorem two_blocks {w : World} (o1 o2 : Obj) : ((w.alloc o1).alloc o2).heap[w.heap.size]? = some o1 ∧ ((w.alloc o1).alloc o2).heap[w.heap.size + 1]? = some o2 ∧ Below w.heap.size w ((w.alloc o1).alloc o2) ∧ ((w.alloc o1).alloc o2).heap.size = w.heap.size + 2 :=
  ⟨heap_alloc2_old w o1 o2, heap_alloc2_new w o1 o2, ((Below.refl _ _).alloc (Nat.le_refl _) _).alloc (by simp) _, by simp⟩

theorem splice_pad (xs : List Int) (h : xs.length ≤ 64) : splice z64 0 (u8s xs) = u8s (padL xs 64) := by
  simp only [splice, z64, padL, u8s, List.take_zero, List.nil_append, List.length_map, Nat.zero_add, List.map_append, List.map_replicate, List.drop_replicate]
theorem NRead.below {w w' : World} {a : Option Addr} {m : Nat} {ns : List (Int × Int)} (h : NRead w a m ns) (hb : Below w.heap.size w w') : NRead w' a m ns := by
  refine ⟨h.1, ?_⟩
  by_cases hm : m = 0
  · exact .inl hm
  rcases h.2 with h0 | ⟨g, off, e, hc⟩
  · exact .inl h0
  · refine .inr ⟨g, off, e, fun i hi => ?_⟩
    rw [hb.cell (World.block_lt_of_cell? w _ (hc i hi).1), hb.cell (World.block_lt_of_cell? w _ (hc i hi).2)]
    exact hc i hi
theorem owns_pos {w : World} {B n : Nat} {sp : Option Addr} {sc : Nat} {xs : List Value} (h : w.ownsRow B 5 1 (.slice sp n sc) n xs) (hn : 0 < n) : ∃ ad, sp = some ad ∧ ∀ j v, xs[j]? = some v → w.cell? (ad.add j) = some v := by
  obtain ⟨g, c, e, hc, _⟩ := owns_some h hn
  injection e with e1 e2 e3
  exact ⟨_, e1, hc⟩

set_option maxHeartbeats 1000000 in
theorem putBlock_any (a : Option Addr) (m ca : Nat) (ns : List (Int × Int)) (w : World) (ha : NRead w a m ns) (hok : NOk m ns) (hm : m ≤ 4096) (hl : (putL ns).length ≤ 64) :
    Calls Tryd.prog 44 #[.slice a m ca] w fun e w' => e = .returned (.agg (u8s (padL (putL ns) 64)).toArray) ∧ Below w.heap.size w w' := by
  go_enter Tryd.func44, Tryd.ntmps44
  go_wp2
  obtain ⟨W0, hW0⟩ : ∃ W0, W0 = (w.alloc (.cells #[.int .u8 0, .int .u8 0, .int .u8 0, .int .u8 0, .int .u8 0, .int .u8 0, .int .u8 0, .int .u8 0, .int .u8 0, .int .u8 0, .int .u8 0, .int .u8 0, .int .u8 0, .int .u8 0, .int .u8 0, .int .u8 0, .int .u8 0, .int .u8 0, .int .u8 0, .int .u8 0, .int .u8 0, .int .u8 0, .int .u8 0, .int .u8 0, .int .u8 0, .int .u8 0, .int .u8 0, .int .u8 0, .int .u8 0, .int .u8 0, .int .u8 0, .int .u8 0, .int .u8 0, .int .u8 0, .int .u8 0, .int .u8 0, .int .u8 0, .int .u8 0, .int .u8 0, .int .u8 0, .int .u8 0, .int .u8 0, .int .u8 0, .int .u8 0, .int .u8 0, .int .u8 0, .int .u8 0, .int .u8 0, .int .u8 0, .int .u8 0, .int .u8 0, .int .u8 0, .int .u8 0, .int .u8 0, .int .u8 0, .int .u8 0, .int .u8 0, .int .u8 0, .int .u8 0, .int .u8 0, .int .u8 0, .int .u8 0, .int .u8 0, .int .u8 0] 52)).alloc (.cells #[.int .u8 0, .int .u8 0, .int .u8 0, .int .u8 0, .int .u8 0, .int .u8 0, .int .u8 0, .int .u8 0, .int .u8 0, .int .u8 0, .int .u8 0, .int .u8 0, .int .u8 0, .int .u8 0, .int .u8 0, .int .u8 0, .int .u8 0, .int .u8 0, .int .u8 0, .int .u8 0, .int .u8 0, .int .u8 0, .int .u8 0, .int .u8 0, .int .u8 0, .int .u8 0, .int .u8 0, .int .u8 0, .int .u8 0, .int .u8 0, .int .u8 0, .int .u8 0, .int .u8 0, .int .u8 0, .int .u8 0, .int .u8 0, .int .u8 0, .int .u8 0, .int .u8 0, .int .u8 0, .int .u8 0, .int .u8 0, .int .u8 0, .int .u8 0, .int .u8 0, .int .u8 0, .int .u8 0, .int .u8 0, .int .u8 0, .int .u8 0, .int .u8 0, .int .u8 0, .int .u8 0, .int .u8 0, .int .u8 0, .int .u8 0, .int .u8 0, .int .u8 0, .int .u8 0, .int .u8 0, .int .u8 0, .int .u8 0, .int .u8 0, .int .u8 0] 52) := ⟨_, rfl⟩
  obtain ⟨k1, k2, hb0, s0⟩ := @two_blocks w (.cells #[.int .u8 0, .int .u8 0, .int .u8 0, .int .u8 0, .int .u8 0, .int .u8 0, .int .u8 0, .int .u8 0, .int .u8 0, .int .u8 0, .int .u8 0, .int .u8 0, .int .u8 0, .int .u8 0, .int .u8 0, .int .u8 0, .int .u8 0, .int .u8 0, .int .u8 0, .int .u8 0, .int .u8 0, .int .u8 0, .int .u8 0, .int .u8 0, .int .u8 0, .int .u8 0, .int .u8 0, .int .u8 0, .int .u8 0, .int .u8 0, .int .u8 0, .int .u8 0, .int .u8 0, .int .u8 0, .int .u8 0, .int .u8 0, .int .u8 0, .int .u8 0, .int .u8 0, .int .u8 0, .int .u8 0, .int .u8 0, .int .u8 0, .int .u8 0, .int .u8 0, .int .u8 0, .int .u8 0, .int .u8 0, .int .u8 0, .int .u8 0, .int .u8 0, .int .u8 0, .int .u8 0, .int .u8 0, .int .u8 0, .int .u8 0, .int .u8 0, .int .u8 0, .int .u8 0, .int .u8 0, .int .u8 0, .int .u8 0, .int .u8 0, .int .u8 0] 52) (.cells #[.int .u8 0, .int .u8 0, .int .u8 0, .int .u8 0, .int .u8 0, .int .u8 0, .int .u8 0, .int .u8 0, .int .u8 0, .int .u8 0, .int .u8 0, .int .u8 0, .int .u8 0, .int .u8 0, .int .u8 0, .int .u8 0, .int .u8 0, .int .u8 0, .int .u8 0, .int .u8 0, .int .u8 0, .int .u8 0, .int .u8 0, .int .u8 0, .int .u8 0, .int .u8 0, .int .u8 0, .int .u8 0, .int .u8 0, .int .u8 0, .int .u8 0, .int .u8 0, .int .u8 0, .int .u8 0, .int .u8 0, .int .u8 0, .int .u8 0, .int .u8 0, .int .u8 0, .int .u8 0, .int .u8 0, .int .u8 0, .int .u8 0, .int .u8 0, .int .u8 0, .int .u8 0, .int .u8 0, .int .u8 0, .int .u8 0, .int .u8 0, .int .u8 0, .int .u8 0, .int .u8 0, .int .u8 0, .int .u8 0, .int .u8 0, .int .u8 0, .int .u8 0, .int .u8 0, .int .u8 0, .int .u8 0, .int .u8 0, .int .u8 0, .int .u8 0] 52)
  rw [← hW0] at k1 k2 hb0 s0 ⊢
  rw [← z64_lit] at k1 k2
  clear hW0
  have ha1 : NRead W0.drew a m ns := ha.below (hb0.drew)
  go_region_law (first
    | (go_simp; go_at_call 30; refine (put_any _ _ _ ns W0.drew ha1 hok hm).mono ?_; rintro e w1 ⟨s, rfl, hown, hbp⟩; obtain ⟨sp, sc, rfl⟩ := owns_shape hown; have g1 := (hbp.block w.heap.size (by simp; omega)).trans k1; have g2 := (hbp.block (w.heap.size + 1) (by simp; omega)).trans k2; have hpos := owns_pos hown)
    | (refine step_copy_splice rfl (.tmp 4) (.tmp 6) 22 22 rfl 5 Tryd.underlying22 info5s (some ⟨w.heap.size + 1, 0, none⟩) sp 64 64 (putL ns).length sc rfl rfl (w.heap.size + 1) 0 z64 52 g2 (u8s (putL ns)) (by rw [u8s_len]; exact (Nat.min_eq_left hl).symm) (fun h => ⟨rfl, hpos (by rw [u8s_len] at h; exact h)⟩) (by rw [u8s_len, z64_len]; omega) (many_u8 _) (w.heap.size + 1) w1 (Below.refl _ _) (Nat.le_refl _) ?_; intro w4 hg4 hb4))
  have g3 : w4.heap[w.heap.size]? = some (.cells z64.toArray 52 (0, 0)) := (hb4.block w.heap.size (by omega)).trans g1
  have hg5 := hg4.out
  rw [splice_pad (putL ns) hl] at hg5
  have hX : (u8s (padL (putL ns) 64)).toArray.size = 64 := by rw [List.size_toArray, u8s_len, padL_len _ _ hl]
  have h1X : (u8s (padL (putL ns) 64)).toArray.all (·.oneCell') = true := by
    rw [Array.all_eq_true_iff_forall_mem]
    intro x hx
    exact many_u8 _ x (by simpa using hx)
  have hb5 : Below w.heap.size w w4 := ((hb0.drew).trans (hbp.mono (by simp; omega))).trans (hb4.mono (by omega))
  generalize hXe : (u8s (padL (putL ns) 64)).toArray = X at *
  have HXe : Hid ((u8s (padL (putL ns) 64)).toArray = X) := hXe
  clear hXe
  clear hg4 hb4 g1 g2 hpos hown hbp k1 k2 hb0 ha1
  go_wp2_with (first
    | (refine wpList_load_row rfl 52 _ rfl (w.heap.size + 1) rfl 52 X (0, 0) _ hg5 Tryd.underlying52 rfl (by rw [hX]; exact info52b) ?_)
    | (refine wpList_store_row rfl 52 _ _ rfl w.heap.size X rfl rfl 52 _ g3 (by rw [hX]; exact info52b) (by rw [hX]; rfl) h1X ?_))
  refine bodyPost_ret (v := .agg X) (results_cell_row Tryd.results44 _ _ w.heap.size 52 X (0, 0) _ rfl (setRow_heap w4 w.heap.size _ X 52 _ g3) Tryd.underlying52 rfl (by rw [hX]; exact info52b)) rfl ?_
  exact ⟨by rw [HXe.out], below_setRow hb5 (Nat.le_refl _) X⟩
end Go.Proofs.YtkkammbfomiofaaDoor
