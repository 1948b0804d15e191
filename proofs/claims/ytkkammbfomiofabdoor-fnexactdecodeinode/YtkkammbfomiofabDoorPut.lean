/-
  put: numbers of given widths, one behind the other.
-/
import Derived.Test.YtkkammbfomiofabDoorBig
namespace Go.Proofs.YtkkammbfomiofabDoor
open Go.RowKit
set_option linter.unusedSimpArgs false
set_option linter.unusedVariables false

theorem beB_get (n : Nat) : ∀ (v : Int) (j : Nat), j < n → (beB v n)[j]? = some ((v / (256 : Int) ^ (n - 1 - j)) % 256) := by
  induction n with
  | zero => intro v j h; omega
  | succ n ih =>
    intro v j h
    rw [beB]
    by_cases hj : j < n
    · rw [List.getElem?_append_left (by rw [beB_len]; exact hj), ih (v / 256) j hj]
      have e : n + 1 - 1 - j = (n - 1 - j) + 1 := by omega
      rw [e, Int.pow_succ, Int.mul_comm, ← Int.ediv_ediv_of_nonneg (by decide)]
    · have e : j = n := by omega
      subst e
      rw [List.getElem?_append_right (by rw [beB_len]; exact Nat.le_refl _), beB_len]
      simp

/-- The widths and values that lie in memory. -/
def nW (ns : List (Int × Int)) (i : Nat) : Int := (ns[i]?.getD (0, 0)).1
def nV (ns : List (Int × Int)) (i : Nat) : Int := (ns[i]?.getD (0, 0)).2
def NRead (w : World) (a : Option Addr) (m : Nat) (ns : List (Int × Int)) : Prop :=
  ns.length = m ∧ (m = 0 ∨ ∃ g off, a = some ⟨g, off, none⟩ ∧ ∀ i, i < m → w.cell? ⟨g, off + i * 2, none⟩ = some (.int .i64 (nW ns i)) ∧ w.cell? ⟨g, off + i * 2 + 1, none⟩ = some (.int .i64 (nV ns i)))
def NOk (m : Nat) (ns : List (Int × Int)) : Prop := ∀ i, i < m → (0 ≤ nW ns i ∧ nW ns i ≤ 64) ∧ 0 ≤ nV ns i ∧ nV ns i ≤ 4611686018427387904
/-- All bytes. -/
def putL (ns : List (Int × Int)) : List Int := ns.flatMap fun x => beB x.2 x.1.toNat
theorem putL_take_succ (ns : List (Int × Int)) (k : Nat) (h : k < ns.length) : putL (ns.take (k + 1)) = putL (ns.take k) ++ beB (nV ns k) (nW ns k).toNat := by
  rw [List.take_succ_eq_append_getElem h]
  simp only [putL, List.flatMap_append, List.flatMap_cons, List.flatMap_nil, List.append_nil, nV, nW, List.getElem?_eq_getElem h, Option.getD_some]
theorem putL_len (m : Nat) (ns : List (Int × Int)) (hl : ns.length = m) (h : NOk m ns) : ∀ k, k ≤ m → (putL (ns.take k)).length ≤ k * 64
  | 0, _ => by simp [putL]
  | k + 1, hk => by
    rw [putL_take_succ ns k (by omega), List.length_append, beB_len]
    have := putL_len m ns hl h k (by omega)
    have := (h k (by omega)).1
    omega

/-- v without its lowest i bytes. -/
def shf (v : Int) (i : Nat) : Int := v / (256 : Int) ^ i
theorem shf_bound (v : Int) (i : Nat) (h0 : 0 ≤ v) : 0 ≤ shf v i ∧ shf v i ≤ v := by
  have hp : (0 : Int) < (256 : Int) ^ i := Int.pow_pos (by decide)
  exact ⟨Int.ediv_nonneg h0 (Int.le_of_lt hp), Int.ediv_le_self _ h0⟩
theorem shf_pow (v : Int) (i : Nat) (h0 : 0 ≤ v) (h1 : v ≤ 4611686018427387904) : v / (2 : Int) ^ (min (8 * i) 64) = shf v i := by
  unfold shf
  by_cases h : 8 * i ≤ 64
  · rw [Nat.min_eq_left h]
    congr 1
    rw [Int.pow_mul]; rfl
  · rw [Nat.min_eq_right (by omega)]
    have e : ((256 : Int) ^ i) = ((256 ^ i : Nat) : Int) := by simp
    have g : (256 : Nat) ^ 8 ≤ 256 ^ i := Nat.pow_le_pow_right (by decide) (by omega)
    have g8 : (256 : Nat) ^ 8 = 18446744073709551616 := by decide
    rw [Int.ediv_eq_zero_of_lt h0 (by omega), Int.ediv_eq_zero_of_lt h0 (by rw [e]; omega)]
theorem shf_run (v : Int) (wd j : Nat) (h0 : 0 ≤ v) (h1 : v ≤ 4611686018427387904) (hj : j < wd) (w : World) :
    Sem.run Tryd.prog (Op.shift BinOp.shr IntKind.i64 v IntKind.i64 (8 * ((wd : Int) - 1 - j))) w = .ok (.int .i64 (shf v (wd - 1 - j))) w := by
  rw [shift_shr_any _ _ _ _ (by omega), show (8 * ((wd : Int) - 1 - j)).toNat = 8 * (wd - 1 - j) from by omega]
  have := shf_pow v (wd - 1 - j) h0 h1
  rw [show IntKind.i64.bits = 64 from rfl, this]
  rfl
theorem beB_take_succ (v : Int) (wd j : Nat) (hj : j < wd) : (beB v wd).take (j + 1) = (beB v wd).take j ++ [shf v (wd - 1 - j) % 256] := by
  have h := beB_get wd v j hj
  have hl : j < (beB v wd).length := by rw [beB_len]; exact hj
  rw [List.take_succ_eq_append_getElem hl]
  rw [List.getElem?_eq_getElem hl, Option.some.injEq] at h
  rw [h]; rfl

theorem owns_ne {w : World} {B n h : Nat} {s : Value} {xs : List Value} {c : Array Value} {f : Nat × Nat} (ho : w.ownsRow B 5 1 s n xs) (hh : w.heap[h]? = some (.cells c 61 f)) : some h ≠ s.ownBlock := by
  rcases ho.2 with ⟨rfl, _⟩ | ⟨g, cap, cur, rfl, _, hg, _⟩
  · simp [Value.ownBlock]
  · simp only [Value.ownBlock, ne_eq, Option.some.injEq]
    intro e
    subst e
    rw [hh] at hg
    simp at hg

theorem two_cellsB {w1 : World} {g : Nat} {t : TypeId} {x y : Value} (h : w1.heap[g]? = some (.cells #[x, y] t (0, 0))) :
    w1.cell? ⟨g, 0, none⟩ = some x ∧ w1.cell? ⟨g, 1, none⟩ = some y ∧ w1.frozen? ⟨g, 0, none⟩ = false ∧ w1.frozen? ⟨g, 1, none⟩ = false := by
  refine ⟨by rw [cell_of_row w1 g 0 _ _ _ h]; rfl, by rw [cell_of_row w1 g 1 _ _ _ h]; rfl, ?_, ?_⟩ <;> simp [World.frozen?, h]

set_option maxHeartbeats 2000000 in
set_option maxRecDepth 100000 in
theorem put_any (a : Option Addr) (m ca : Nat) (ns : List (Int × Int)) (w : World) (ha : NRead w a m ns) (hok : NOk m ns) (hm : m ≤ 4096) :
    Calls Tryd.prog 43 #[.slice a m ca] w fun e w' => ∃ s, e = .returned s ∧ w'.ownsRow w.heap.size 5 1 s (putL ns).length (u8s (putL ns)) ∧ Below w.heap.size w w' := by
  obtain ⟨i0, hi, hz0, hz1, hz2⟩ := info_parts info5
  obtain ⟨hx, ha⟩ := ha
  rcases ha with h0 | ⟨g, off, rfl, hc⟩
  · subst h0
    have he : ns = [] := List.length_eq_zero_iff.1 hx
    subst he
    clear hok
    go_enter Tryd.func43, Tryd.ntmps43
    go_wp2
    refine wp_loop_rounds 1 ?_
    rw [rounds_succ]
    go_wp2
    go_ret
    exact ⟨_, rfl, empty_owned w, (Below.refl _ _).alloc (Nat.le_refl _) _⟩
  · have HX : Hid (ns.length = m) := hx
    have HK : Hid (NOk m ns) := hok
    clear hx hok
    go_enter Tryd.func43, Tryd.ntmps43
    go_wp2
    go_loopw [3, 10] (fun s i wr => ∃ k : Nat, k ≤ m ∧ i = .int .i64 k ∧ wr.ownsRow w.heap.size 5 1 s (putL (ns.take k)).length (u8s (putL (ns.take k))) ∧ Below w.heap.size w wr) (fun _ i _ => m - (intOf i).toNat)
    case atStart => exact ⟨0, Nat.zero_le _, rfl, empty_owned w, (Below.refl _ _).alloc (Nat.le_refl _) _⟩
    case round =>
      obtain ⟨k, hk, rfl, hown, hbel⟩ := hrel
      by_cases hlt : k < m
      · obtain ⟨c1, c2⟩ := hc k hlt
        rw [← hbel.cell (World.block_lt_of_cell? w _ c1)] at c1
        rw [← hbel.cell (World.block_lt_of_cell? w _ c2)] at c2
        obtain ⟨⟨b1, b2⟩, b3, b4⟩ := HK.out k hlt
        have hgl := World.block_lt_of_cell? wr _ c1
        simp only at hgl
        clear hc
        have HP : Hid (putL (ns.take (k + 1)) = putL (ns.take k) ++ beB (nV ns k) (nW ns k).toNat) := putL_take_succ ns k (by rw [HX.out]; exact hlt)
        have hpl := putL_len m ns HX.out HK.out k hk
        obtain ⟨wd, hwd⟩ := Int.eq_ofNat_of_zero_le b1
        rw [hwd] at c1 b2 HP
        rw [Int.toNat_natCast] at HP
        generalize nV ns k = v at *
        generalize putL (ns.take k) = P at *
        clear b1 hwd
        go_wp2
        go_loopw [3, 6] (fun s i w2 => ∃ j : Nat, j ≤ wd ∧ i = .int .i64 ((wd : Int) - 1 - j) ∧ w2.ownsRow w.heap.size 5 1 s (P.length + j) (u8s (P ++ (beB v wd).take j)) ∧ Below w.heap.size w w2 ∧ w2.heap[wr.heap.size]? = some (.cells #[.int .i64 wd, .int .i64 v] 61 (0, 0))) (fun _ i _ => (intOf i + 1).toNat)
        case atStart => exact ⟨0, Nat.zero_le _, by simp, by simpa using hown.alloc _, hbel.alloc hbel.size _, heap_alloc_new wr _⟩
        case round =>
          obtain ⟨j, hj, rfl, hown2, hbel2, hvar⟩ := hrel
          by_cases hjl : j < wd
          · obtain ⟨q1, q2, _, _⟩ := two_cellsB hvar
            have hsh := fun w => shf_run v wd j b3 b4 hjl w
            obtain ⟨f1, f2⟩ := shf_bound v (wd - 1 - j) b3
            have hne := owns_ne hown2 hvar
            have hsz := hbel2.size
            have HS : Hid (u8s (P ++ (beB v wd).take (j + 1)) = u8s (P ++ (beB v wd).take j) ++ [.int .u8 (shf v (wd - 1 - j) % 256)]) := by
              show _ = _
              rw [beB_take_succ v wd j hjl, ← List.append_assoc, u8s_append]; rfl
            have HV : Hid (wr.heap[_]? = _) := hvar
            have hvl := (Array.getElem?_eq_some_iff.1 hvar).1
            generalize shf v (wd - 1 - j) = x at *
            clear hvar
            go_wp2_with (at_builtin; refine wpList_append_own _ rfl _ _ 22 rfl w.heap.size 5 i0 (.int .u8 0) 1 1 Tryd.underlying22 hi hz0 hz1 hz2 rfl (by decide) _ _ _ rfl (hown2.alloc _) ⟨wr.heap.size, 0, none⟩ 1 1 [.int .u8 (x % 256)] rfl rfl one_cell (one_u8 _) ?c3 ?c4 ?c5 ?_)
            case c3 => unfold maxLen; omega
            case c4 => omega
            case c5 => simp; omega
            intro s' w3 hown3 hgrow _
            have hb3 : Below w.heap.size w w3 := (hbel2.alloc hsz _).grown hgrow (by simp; omega) (fun k hk => (hown2.lt k hk).1)
            have hv3 := ((hgrow.block _ (by simp; omega) hne).trans (heap_alloc_old wr _ hvl)).trans HV.out
            have hown4 : w3.ownsRow w.heap.size 5 1 s' (P.length + (j + 1)) (u8s (P ++ (beB v wd).take (j + 1))) := by rw [HS.out, ← Nat.add_assoc]; exact hown3
            clear hown3 hown2 hgrow hsh hne HS
            go_wp2
            go_roundw
            case rel => exact ⟨j + 1, by omega, by go_num, hown4, hb3, hv3⟩
            case measure => simp [intOf]; omega
          · have hjw : j = wd := by omega
            subst hjw
            have hown3 : wr.ownsRow w.heap.size 5 1 u3 (putL (ns.take (k + 1))).length (u8s (putL (ns.take (k + 1)))) := by
              rw [HP.out, List.length_append, beB_len]
              rwa [List.take_of_length_le (by rw [beB_len]; exact Nat.le_refl _)] at hown2
            clear hvar hown2
            go_wp2
            go_roundw
            case rel => exact ⟨k + 1, by omega, by go_num, hown3, hbel2⟩
            case measure => simp [intOf]; omega
      · have hkm : k = m := by omega
        subst hkm
        rw [List.take_of_length_le (by rw [HX.out]; exact Nat.le_refl _)] at hown
        clear hc
        go_wp2
        go_ret
        exact ⟨_, rfl, hown, hbel⟩
end Go.Proofs.YtkkammbfomiofabDoor
