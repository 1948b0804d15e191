/-
  Mark, Big, Put, Pad, Blk, Cdk, Cdl.
-/
import Derived.Test.YtonpdbajoidigaaGreatDoorGa
import Derived.Deep.RegionLaw
import Derived.Laws.CopyOwn
import Derived.Laws.Tables
import Derived.Maps.OwnSet
import Derived.Maps.Views
import Derived.Deep.MidRow
import Derived.Deep.RegionHeld3
import Derived.Great.BuildSlice
/-
  markByteS and heldByteS.
-/
namespace Go.Proofs.YtonpdbajoidigaaGreatDoor
open Go.RowKit

/-- The marks of n bytes from k on. -/
def marks (k : Int) (n : Nat) : List Int := (List.range n).map fun i : Nat => (k + (i : Int)) % 256
theorem marks_len (k : Int) (n : Nat) : (marks k n).length = n := by simp [marks]
theorem marks_at (k : Int) (n i : Nat) (h : i < n) : (marks k n)[i]?.getD 0 = (k + (i : Int)) % 256 := by simp [marks, h]

theorem step_mark (k : Int) (xs : List Int) (j i : Nat) :
    (if i < j + 1 then (k + (i : Int)) % 256 else xs[i]?.getD 0) = if i = j then (k + (j : Int)) % 256 else if i < j then (k + (i : Int)) % 256 else xs[i]?.getD 0 := by
  by_cases e : i = j
  · subst e; simp
  · rw [if_neg e]; by_cases h : i < j
    · rw [if_pos h, if_pos (by omega)]
    · rw [if_neg h, if_neg (by omega)]

end Go.Proofs.YtonpdbajoidigaaGreatDoor

/-
  Numbers as bytes: l2Big.
-/
namespace Go.Proofs.YtonpdbajoidigaaGreatDoor
open Go.RowKit
set_option linter.unusedSimpArgs false
set_option linter.unusedVariables false

/-- v as n bytes, the highest first. -/
def beB (v : Int) : Nat → List Int
  | 0 => []
  | n + 1 => beB (v / 256) n ++ [v % 256]
theorem beB_len (n : Nat) : ∀ v : Int, (beB v n).length = n := by
  induction n with
  | zero => intro v; rfl
  | succ n ih => intro v; simp [beB, ih]

/-- Bytes as cells. -/
def u8s (xs : List Int) : List Value := xs.map (Value.int .u8)
theorem u8s_append (xs ys : List Int) : u8s (xs ++ ys) = u8s xs ++ u8s ys := by simp [u8s]
theorem u8s_len (xs : List Int) : (u8s xs).length = xs.length := by simp [u8s]

/-- What is owned by the append laws, as a row of ours. -/
theorem owns_row {w : World} {B n : Nat} {v : Value} {xs : List Int} (h : w.ownsRow B 5 1 v n (u8s xs)) : ∃ a c, v = .slice a n c ∧ Row .u8 (fun g => B ≤ g ∧ g < w.heap.size) w a n xs := by
  have hl : xs.length = n := by have := h.1; rw [u8s_len] at this; omega
  rcases h.2 with ⟨rfl, h0⟩ | ⟨g, cap, cur, rfl, hB, hg, hc, hm, hsz, ht⟩
  · exact ⟨none, 0, by rw [h0], hl, .inl h0⟩
  · refine ⟨some ⟨g, 0, none⟩, cap, rfl, hl, ?_⟩
    by_cases h0 : n = 0
    · exact .inl h0
    · refine .inr ⟨g, 0, rfl, ⟨hB, (Array.getElem?_eq_some_iff.1 hg).1⟩, fun i hi => ?_⟩
      rw [Nat.zero_add]
      refine ⟨?_, h.frozenAt i⟩
      rw [h.cellAt i (by omega)]
      simp [u8s, List.getElem?_eq_getElem (show i < xs.length by omega)]

theorem owns_some {w : World} {B n : Nat} {v : Value} {xs : List Value} (h : w.ownsRow B 5 1 v n xs) (hn : 0 < n) : ∃ g c, v = .slice (some ⟨g, 0, none⟩) n c ∧ (∀ j u, xs[j]? = some u → w.cell? ((⟨g, 0, none⟩ : Addr).add j) = some u) ∧ g < w.heap.size := by
  have h' := h
  rcases h.2 with ⟨rfl, h0⟩ | ⟨g, cap, cur, rfl, hB, hg, hc, hm, hsz, ht⟩
  · omega
  · exact ⟨g, cap, rfl, h'.cells rfl, (Array.getElem?_eq_some_iff.1 hg).1⟩

theorem one_cell {w : World} {x : Value} {t : TypeId} : ∀ j u, [x][j]? = some u → (w.alloc (.cells #[x] t)).cell? ((⟨w.heap.size, 0, none⟩ : Addr).add j) = some u := by
  intro j u hj
  match j, hj with
  | 0, hj => simp at hj; subst hj; simp [Addr.add]
theorem one_u8 (x : Int) : ∀ u ∈ [Value.int .u8 x], u.oneCell' = true := by intro u hu; simp at hu; subst hu; rfl
theorem many_u8 (xs : List Int) : ∀ u ∈ u8s xs, u.oneCell' = true := by intro u hu; simp [u8s] at hu; obtain ⟨a, _, rfl⟩ := hu; rfl

theorem empty_owned (w : World) : (w.alloc (.cells #[] 5)).ownsRow w.heap.size 5 1 (.slice (some ⟨w.heap.size, 0, none⟩) 0 0) 0 [] :=
  World.ownsRow_made w #[] 0 (Nat.le_refl _) (Nat.zero_le _) rfl

end Go.Proofs.YtonpdbajoidigaaGreatDoor

/-
  put: numbers of given widths, one behind the other.
-/
namespace Go.Proofs.YtonpdbajoidigaaGreatDoor
open Go.RowKit
set_option linter.unusedSimpArgs false
set_option linter.unusedVariables false

theorem beB_get (n : Nat) : ∀ (v : Int) (j : Nat), j < n → (beB v n)[j]? = some ((v / (256 : Int) ^ (n - 1 - j)) % 256) := by
  induction n with
  | zero => intro v j h; omega
  | succ n ih =>
    intro v j h
    rw [beB]
    by_cases hj : j < n
    · rw [List.getElem?_append_left (by rw [beB_len]; exact hj), ih (v / 256) j hj]
      have e : n + 1 - 1 - j = (n - 1 - j) + 1 := by omega
      rw [e, Int.pow_succ, Int.mul_comm, ← Int.ediv_ediv_of_nonneg (by decide)]
    · have e : j = n := by omega
      subst e
      rw [List.getElem?_append_right (by rw [beB_len]; exact Nat.le_refl _), beB_len]
      simp

/-- The widths and values that lie in memory. -/
def nW (ns : List (Int × Int)) (i : Nat) : Int := (ns[i]?.getD (0, 0)).1
def nV (ns : List (Int × Int)) (i : Nat) : Int := (ns[i]?.getD (0, 0)).2
def NRead (w : World) (a : Option Addr) (m : Nat) (ns : List (Int × Int)) : Prop :=
  ns.length = m ∧ (m = 0 ∨ ∃ g off, a = some ⟨g, off, none⟩ ∧ ∀ i, i < m → w.cell? ⟨g, off + i * 2, none⟩ = some (.int .i64 (nW ns i)) ∧ w.cell? ⟨g, off + i * 2 + 1, none⟩ = some (.int .i64 (nV ns i)))
def NOk (m : Nat) (ns : List (Int × Int)) : Prop := ∀ i, i < m → (0 ≤ nW ns i ∧ nW ns i ≤ 64) ∧ 0 ≤ nV ns i ∧ nV ns i ≤ 4611686018427387904
/-- All bytes. -/
def putL (ns : List (Int × Int)) : List Int := ns.flatMap fun x => beB x.2 x.1.toNat
theorem putL_take_succ (ns : List (Int × Int)) (k : Nat) (h : k < ns.length) : putL (ns.take (k + 1)) = putL (ns.take k) ++ beB (nV ns k) (nW ns k).toNat := by
  rw [List.take_succ_eq_append_getElem h]
  simp only [putL, List.flatMap_append, List.flatMap_cons, List.flatMap_nil, List.append_nil, nV, nW, List.getElem?_eq_getElem h, Option.getD_some]
theorem putL_len (m : Nat) (ns : List (Int × Int)) (hl : ns.length = m) (h : NOk m ns) : ∀ k, k ≤ m → (putL (ns.take k)).length ≤ k * 64
  | 0, _ => by simp [putL]
  | k + 1, hk => by
    rw [putL_take_succ ns k (by omega), List.length_append, beB_len]
    have := putL_len m ns hl h k (by omega)
    have := (h k (by omega)).1
    omega

/-- v without its lowest i bytes. -/
def shf (v : Int) (i : Nat) : Int := v / (256 : Int) ^ i
theorem shf_bound (v : Int) (i : Nat) (h0 : 0 ≤ v) : 0 ≤ shf v i ∧ shf v i ≤ v := by
  have hp : (0 : Int) < (256 : Int) ^ i := Int.pow_pos (by decide)
  exact ⟨Int.ediv_nonneg h0 (Int.le_of_lt hp), Int.ediv_le_self _ h0⟩
theorem shf_pow (v : Int) (i : Nat) (h0 : 0 ≤ v) (h1 : v ≤ 4611686018427387904) : v / (2 : Int) ^ (min (8 * i) 64) = shf v i := by
  unfold shf
  by_cases h : 8 * i ≤ 64
  · rw [Nat.min_eq_left h]
    congr 1
    rw [Int.pow_mul]; rfl
  · rw [Nat.min_eq_right (by omega)]
    have e : ((256 : Int) ^ i) = ((256 ^ i : Nat) : Int) := by simp
    have g : (256 : Nat) ^ 8 ≤ 256 ^ i := Nat.pow_le_pow_right (by decide) (by omega)
    have g8 : (256 : Nat) ^ 8 = 18446744073709551616 := by decide
    rw [Int.ediv_eq_zero_of_lt h0 (by omega), Int.ediv_eq_zero_of_lt h0 (by rw [e]; omega)]
theorem shf_run (v : Int) (wd j : Nat) (h0 : 0 ≤ v) (h1 : v ≤ 4611686018427387904) (hj : j < wd) (w : World) :
    Sem.run Tryz.prog (Op.shift BinOp.shr IntKind.i64 v IntKind.i64 (8 * ((wd : Int) - 1 - j))) w = .ok (.int .i64 (shf v (wd - 1 - j))) w := by
  rw [shift_shr_any _ _ _ _ (by omega), show (8 * ((wd : Int) - 1 - j)).toNat = 8 * (wd - 1 - j) from by omega]
  have := shf_pow v (wd - 1 - j) h0 h1
  rw [show IntKind.i64.bits = 64 from rfl, this]
  rfl
theorem beB_take_succ (v : Int) (wd j : Nat) (hj : j < wd) : (beB v wd).take (j + 1) = (beB v wd).take j ++ [shf v (wd - 1 - j) % 256] := by
  have h := beB_get wd v j hj
  have hl : j < (beB v wd).length := by rw [beB_len]; exact hj
  rw [List.take_succ_eq_append_getElem hl]
  rw [List.getElem?_eq_getElem hl, Option.some.injEq] at h
  rw [h]; rfl

theorem owns_ne {w : World} {B n h : Nat} {s : Value} {xs : List Value} {c : Array Value} {f : Nat × Nat} (ho : w.ownsRow B 5 1 s n xs) (hh : w.heap[h]? = some (.cells c 100 f)) : some h ≠ s.ownBlock := by
  rcases ho.2 with ⟨rfl, _⟩ | ⟨g, cap, cur, rfl, _, hg, _⟩
  · simp [Value.ownBlock]
  · simp only [Value.ownBlock, ne_eq, Option.some.injEq]
    intro e
    subst e
    rw [hh] at hg
    simp at hg

theorem two_cellsB {w1 : World} {g : Nat} {t : TypeId} {x y : Value} (h : w1.heap[g]? = some (.cells #[x, y] t (0, 0))) :
    w1.cell? ⟨g, 0, none⟩ = some x ∧ w1.cell? ⟨g, 1, none⟩ = some y ∧ w1.frozen? ⟨g, 0, none⟩ = false ∧ w1.frozen? ⟨g, 1, none⟩ = false := by
  refine ⟨by rw [cell_of_row w1 g 0 _ _ _ h]; rfl, by rw [cell_of_row w1 g 1 _ _ _ h]; rfl, ?_, ?_⟩ <;> simp [World.frozen?, h]

set_option maxHeartbeats 2000000 in
set_option maxRecDepth 100000 in
theorem put_any (a : Option Addr) (m ca : Nat) (ns : List (Int × Int)) (w : World) (ha : NRead w a m ns) (hok : NOk m ns) (hm : m ≤ 4096) :
    Calls Tryz.prog 59 #[.slice a m ca] w fun e w' => ∃ s, e = .returned s ∧ w'.ownsRow w.heap.size 5 1 s (putL ns).length (u8s (putL ns)) ∧ Below w.heap.size w w' := by
  obtain ⟨i0, hi, hz0, hz1, hz2⟩ := info_parts info5
  obtain ⟨hx, ha⟩ := ha
  rcases ha with h0 | ⟨g, off, rfl, hc⟩
  · subst h0
    have he : ns = [] := List.length_eq_zero_iff.1 hx
    subst he
    clear hok
    go_enter Tryz.func59, Tryz.ntmps59
    go_wp2
    refine wp_loop_rounds 1 ?_
    rw [rounds_succ]
    go_wp2
    go_ret
    exact ⟨_, rfl, empty_owned w, (Below.refl _ _).alloc (Nat.le_refl _) _⟩
  · have HX : Hid (ns.length = m) := hx
    have HK : Hid (NOk m ns) := hok
    clear hx hok
    go_enter Tryz.func59, Tryz.ntmps59
    go_wp2
    go_loopw [3, 10] (fun s i wr => ∃ k : Nat, k ≤ m ∧ i = .int .i64 k ∧ wr.ownsRow w.heap.size 5 1 s (putL (ns.take k)).length (u8s (putL (ns.take k))) ∧ Below w.heap.size w wr) (fun _ i _ => m - (intOf i).toNat)
    case atStart => exact ⟨0, Nat.zero_le _, rfl, empty_owned w, (Below.refl _ _).alloc (Nat.le_refl _) _⟩
    case round =>
      obtain ⟨k, hk, rfl, hown, hbel⟩ := hrel
      by_cases hlt : k < m
      · obtain ⟨c1, c2⟩ := hc k hlt
        rw [← hbel.cell (World.block_lt_of_cell? w _ c1)] at c1
        rw [← hbel.cell (World.block_lt_of_cell? w _ c2)] at c2
        obtain ⟨⟨b1, b2⟩, b3, b4⟩ := HK.out k hlt
        have hgl := World.block_lt_of_cell? wr _ c1
        simp only at hgl
        clear hc
        have HP : Hid (putL (ns.take (k + 1)) = putL (ns.take k) ++ beB (nV ns k) (nW ns k).toNat) := putL_take_succ ns k (by rw [HX.out]; exact hlt)
        have hpl := putL_len m ns HX.out HK.out k hk
        obtain ⟨wd, hwd⟩ := Int.eq_ofNat_of_zero_le b1
        rw [hwd] at c1 b2 HP
        rw [Int.toNat_natCast] at HP
        generalize nV ns k = v at *
        generalize putL (ns.take k) = P at *
        clear b1 hwd
        go_wp2
        go_loopw [3, 6] (fun s i w2 => ∃ j : Nat, j ≤ wd ∧ i = .int .i64 ((wd : Int) - 1 - j) ∧ w2.ownsRow w.heap.size 5 1 s (P.length + j) (u8s (P ++ (beB v wd).take j)) ∧ Below w.heap.size w w2 ∧ w2.heap[wr.heap.size]? = some (.cells #[.int .i64 wd, .int .i64 v] 100 (0, 0))) (fun _ i _ => (intOf i + 1).toNat)
        case atStart => exact ⟨0, Nat.zero_le _, by simp, by simpa using hown.alloc _, hbel.alloc hbel.size _, heap_alloc_new wr _⟩
        case round =>
          obtain ⟨j, hj, rfl, hown2, hbel2, hvar⟩ := hrel
          by_cases hjl : j < wd
          · obtain ⟨q1, q2, _, _⟩ := two_cellsB hvar
            have hsh := fun w => shf_run v wd j b3 b4 hjl w
            obtain ⟨f1, f2⟩ := shf_bound v (wd - 1 - j) b3
            have hne := owns_ne hown2 hvar
            have hsz := hbel2.size
            have HS : Hid (u8s (P ++ (beB v wd).take (j + 1)) = u8s (P ++ (beB v wd).take j) ++ [.int .u8 (shf v (wd - 1 - j) % 256)]) := by
              show _ = _
              rw [beB_take_succ v wd j hjl, ← List.append_assoc, u8s_append]; rfl
            have HV : Hid (wr.heap[_]? = _) := hvar
            have hvl := (Array.getElem?_eq_some_iff.1 hvar).1
            generalize shf v (wd - 1 - j) = x at *
            clear hvar
            go_wp2_with (at_builtin; refine wpList_append_own _ rfl _ _ 22 rfl w.heap.size 5 i0 (.int .u8 0) 1 1 Tryz.underlying22 hi hz0 hz1 hz2 rfl (by decide) _ _ _ rfl (hown2.alloc _) ⟨wr.heap.size, 0, none⟩ 1 1 [.int .u8 (x % 256)] rfl rfl one_cell (one_u8 _) ?c3 ?c4 ?c5 ?_)
            case c3 => unfold maxLen; omega
            case c4 => omega
            case c5 => simp; omega
            intro s' w3 hown3 hgrow _
            have hb3 : Below w.heap.size w w3 := (hbel2.alloc hsz _).grown hgrow (by simp; omega) (fun k hk => (hown2.lt k hk).1)
            have hv3 := ((hgrow.block _ (by simp; omega) hne).trans (heap_alloc_old wr _ hvl)).trans HV.out
            have hown4 : w3.ownsRow w.heap.size 5 1 s' (P.length + (j + 1)) (u8s (P ++ (beB v wd).take (j + 1))) := by rw [HS.out, ← Nat.add_assoc]; exact hown3
            clear hown3 hown2 hgrow hsh hne HS
            go_wp2
            go_roundw
            case rel => exact ⟨j + 1, by omega, by go_num, hown4, hb3, hv3⟩
            case measure => simp [intOf]; omega
          · have hjw : j = wd := by omega
            subst hjw
            have hown3 : wr.ownsRow w.heap.size 5 1 u3 (putL (ns.take (k + 1))).length (u8s (putL (ns.take (k + 1)))) := by
              rw [HP.out, List.length_append, beB_len]
              rwa [List.take_of_length_le (by rw [beB_len]; exact Nat.le_refl _)] at hown2
            clear hvar hown2
            go_wp2
            go_roundw
            case rel => exact ⟨k + 1, by omega, by go_num, hown3, hbel2⟩
            case measure => simp [intOf]; omega
      · have hkm : k = m := by omega
        subst hkm
        rw [List.take_of_length_le (by rw [HX.out]; exact Nat.le_refl _)] at hown
        clear hc
        go_wp2
        go_ret
        exact ⟨_, rfl, hown, hbel⟩
end Go.Proofs.YtonpdbajoidigaaGreatDoor

/-
  l1Copy, l2Pad.
-/
namespace Go.Proofs.YtonpdbajoidigaaGreatDoor
open Go.RowKit
set_option linter.unusedSimpArgs false
set_option linter.unusedVariables false

theorem u8s_take_succ (xs : List Int) (k : Nat) (h : k < xs.length) : u8s (xs.take (k + 1)) = u8s (xs.take k) ++ [.int .u8 (xs[k]?.getD 0)] := by
  rw [List.take_succ_eq_append_getElem h, u8s_append]; simp [u8s, List.getElem?_eq_getElem h]

/-- Zeros behind, up to m. -/
def padL (xs : List Int) (m : Nat) : List Int := xs ++ List.replicate (m - xs.length) 0
theorem padL_len (xs : List Int) (m : Nat) (h : xs.length ≤ m) : (padL xs m).length = m := by simp [padL]; omega

/-- The length in a slot. -/
def lenOf : Value → Nat
  | .slice _ l _ => l
  | _ => 0
theorem owns_shape {w : World} {B e sz n : Nat} {v : Value} {xs : List Value} (h : w.ownsRow B e sz v n xs) : ∃ a c, v = .slice a n c := by
  rcases h.2 with ⟨rfl, h0⟩ | ⟨g, cap, cur, rfl, _⟩
  · exact ⟨none, 0, by rw [h0]⟩
  · exact ⟨_, _, rfl⟩

end Go.Proofs.YtonpdbajoidigaaGreatDoor

/-
  putBlock: an array of 64 bytes.
-/
namespace Go.Proofs.YtonpdbajoidigaaGreatDoor
open Go.RowKit
set_option linter.unusedSimpArgs false
set_option linter.unusedVariables false

/-- 64 zeros. -/
def z64 : List Value := u8s (List.replicate 64 0)
theorem z64_lit : z64.toArray = #[.int .u8 0, .int .u8 0, .int .u8 0, .int .u8 0, .int .u8 0, .int .u8 0, .int .u8 0, .int .u8 0, .int .u8 0, .int .u8 0, .int .u8 0, .int .u8 0, .int .u8 0, .int .u8 0, .int .u8 0, .int .u8 0, .int .u8 0, .int .u8 0, .int .u8 0, .int .u8 0, .int .u8 0, .int .u8 0, .int .u8 0, .int .u8 0, .int .u8 0, .int .u8 0, .int .u8 0, .int .u8 0, .int .u8 0, .int .u8 0, .int .u8 0, .int .u8 0, .int .u8 0, .int .u8 0, .int .u8 0, .int .u8 0, .int .u8 0, .int .u8 0, .int .u8 0, .int .u8 0, .int .u8 0, .int .u8 0, .int .u8 0, .int .u8 0, .int .u8 0, .int .u8 0, .int .u8 0, .int .u8 0, .int .u8 0, .int .u8 0, .int .u8 0, .int .u8 0, .int .u8 0, .int .u8 0, .int .u8 0, .int .u8 0, .int .u8 0, .int .u8 0, .int .u8 0, .int .u8 0, .int .u8 0, .int .u8 0, .int .u8 0, .int .u8 0] := by rfl
theorem z64_len : z64.length = 64 := by rfl
theorem info5s : (Tryz.prog.info? 5).map (·.size) = some 1 := by kernel_rfl
theorem info74b : (Tryz.prog.info? 74).map (·.size) = some 64 := by kernel_rfl

theorem two_blocks {w : World} (o1 o2 : Obj) : ((w.alloc o1).alloc o2).heap[w.heap.size]? = some o1 ∧ ((w.alloc o1).alloc o2).heap[w.heap.size + 1]? = some o2 ∧ Below w.heap.size w ((w.alloc o1).alloc o2) ∧ ((w.alloc o1).alloc o2).heap.size = w.heap.size + 2 :=
  ⟨heap_alloc2_old w o1 o2, heap_alloc2_new w o1 o2, ((Below.refl _ _).alloc (Nat.le_refl _) _).alloc (by simp) _, by simp⟩

theorem splice_pad (xs : List Int) (h : xs.length ≤ 64) : splice z64 0 (u8s xs) = u8s (padL xs 64) := by
  simp only [splice, z64, padL, u8s, List.take_zero, List.nil_append, List.length_map, Nat.zero_add, List.map_append, List.map_replicate, List.drop_replicate]
theorem NRead.below {w w' : World} {a : Option Addr} {m : Nat} {ns : List (Int × Int)} (h : NRead w a m ns) (hb : Below w.heap.size w w') : NRead w' a m ns := by
  refine ⟨h.1, ?_⟩
  by_cases hm : m = 0
  · exact .inl hm
  rcases h.2 with h0 | ⟨g, off, e, hc⟩
  · exact .inl h0
  · refine .inr ⟨g, off, e, fun i hi => ?_⟩
    rw [hb.cell (World.block_lt_of_cell? w _ (hc i hi).1), hb.cell (World.block_lt_of_cell? w _ (hc i hi).2)]
    exact hc i hi
theorem owns_pos {w : World} {B n : Nat} {sp : Option Addr} {sc : Nat} {xs : List Value} (h : w.ownsRow B 5 1 (.slice sp n sc) n xs) (hn : 0 < n) : ∃ ad, sp = some ad ∧ ∀ j v, xs[j]? = some v → w.cell? (ad.add j) = some v := by
  obtain ⟨g, c, e, hc, _⟩ := owns_some h hn
  injection e with e1 e2 e3
  exact ⟨_, e1, hc⟩

set_option maxHeartbeats 1000000 in
theorem putBlock_any (a : Option Addr) (m ca : Nat) (ns : List (Int × Int)) (w : World) (ha : NRead w a m ns) (hok : NOk m ns) (hm : m ≤ 4096) (hl : (putL ns).length ≤ 64) :
    Calls Tryz.prog 34 #[.slice a m ca] w fun e w' => e = .returned (.agg (u8s (padL (putL ns) 64)).toArray) ∧ Below w.heap.size w w' := by
  go_enter Tryz.func34, Tryz.ntmps34
  go_wp2
  obtain ⟨W0, hW0⟩ : ∃ W0, W0 = (w.alloc (.cells #[.int .u8 0, .int .u8 0, .int .u8 0, .int .u8 0, .int .u8 0, .int .u8 0, .int .u8 0, .int .u8 0, .int .u8 0, .int .u8 0, .int .u8 0, .int .u8 0, .int .u8 0, .int .u8 0, .int .u8 0, .int .u8 0, .int .u8 0, .int .u8 0, .int .u8 0, .int .u8 0, .int .u8 0, .int .u8 0, .int .u8 0, .int .u8 0, .int .u8 0, .int .u8 0, .int .u8 0, .int .u8 0, .int .u8 0, .int .u8 0, .int .u8 0, .int .u8 0, .int .u8 0, .int .u8 0, .int .u8 0, .int .u8 0, .int .u8 0, .int .u8 0, .int .u8 0, .int .u8 0, .int .u8 0, .int .u8 0, .int .u8 0, .int .u8 0, .int .u8 0, .int .u8 0, .int .u8 0, .int .u8 0, .int .u8 0, .int .u8 0, .int .u8 0, .int .u8 0, .int .u8 0, .int .u8 0, .int .u8 0, .int .u8 0, .int .u8 0, .int .u8 0, .int .u8 0, .int .u8 0, .int .u8 0, .int .u8 0, .int .u8 0, .int .u8 0] 74)).alloc (.cells #[.int .u8 0, .int .u8 0, .int .u8 0, .int .u8 0, .int .u8 0, .int .u8 0, .int .u8 0, .int .u8 0, .int .u8 0, .int .u8 0, .int .u8 0, .int .u8 0, .int .u8 0, .int .u8 0, .int .u8 0, .int .u8 0, .int .u8 0, .int .u8 0, .int .u8 0, .int .u8 0, .int .u8 0, .int .u8 0, .int .u8 0, .int .u8 0, .int .u8 0, .int .u8 0, .int .u8 0, .int .u8 0, .int .u8 0, .int .u8 0, .int .u8 0, .int .u8 0, .int .u8 0, .int .u8 0, .int .u8 0, .int .u8 0, .int .u8 0, .int .u8 0, .int .u8 0, .int .u8 0, .int .u8 0, .int .u8 0, .int .u8 0, .int .u8 0, .int .u8 0, .int .u8 0, .int .u8 0, .int .u8 0, .int .u8 0, .int .u8 0, .int .u8 0, .int .u8 0, .int .u8 0, .int .u8 0, .int .u8 0, .int .u8 0, .int .u8 0, .int .u8 0, .int .u8 0, .int .u8 0, .int .u8 0, .int .u8 0, .int .u8 0, .int .u8 0] 74) := ⟨_, rfl⟩
  obtain ⟨k1, k2, hb0, s0⟩ := @two_blocks w (.cells #[.int .u8 0, .int .u8 0, .int .u8 0, .int .u8 0, .int .u8 0, .int .u8 0, .int .u8 0, .int .u8 0, .int .u8 0, .int .u8 0, .int .u8 0, .int .u8 0, .int .u8 0, .int .u8 0, .int .u8 0, .int .u8 0, .int .u8 0, .int .u8 0, .int .u8 0, .int .u8 0, .int .u8 0, .int .u8 0, .int .u8 0, .int .u8 0, .int .u8 0, .int .u8 0, .int .u8 0, .int .u8 0, .int .u8 0, .int .u8 0, .int .u8 0, .int .u8 0, .int .u8 0, .int .u8 0, .int .u8 0, .int .u8 0, .int .u8 0, .int .u8 0, .int .u8 0, .int .u8 0, .int .u8 0, .int .u8 0, .int .u8 0, .int .u8 0, .int .u8 0, .int .u8 0, .int .u8 0, .int .u8 0, .int .u8 0, .int .u8 0, .int .u8 0, .int .u8 0, .int .u8 0, .int .u8 0, .int .u8 0, .int .u8 0, .int .u8 0, .int .u8 0, .int .u8 0, .int .u8 0, .int .u8 0, .int .u8 0, .int .u8 0, .int .u8 0] 74) (.cells #[.int .u8 0, .int .u8 0, .int .u8 0, .int .u8 0, .int .u8 0, .int .u8 0, .int .u8 0, .int .u8 0, .int .u8 0, .int .u8 0, .int .u8 0, .int .u8 0, .int .u8 0, .int .u8 0, .int .u8 0, .int .u8 0, .int .u8 0, .int .u8 0, .int .u8 0, .int .u8 0, .int .u8 0, .int .u8 0, .int .u8 0, .int .u8 0, .int .u8 0, .int .u8 0, .int .u8 0, .int .u8 0, .int .u8 0, .int .u8 0, .int .u8 0, .int .u8 0, .int .u8 0, .int .u8 0, .int .u8 0, .int .u8 0, .int .u8 0, .int .u8 0, .int .u8 0, .int .u8 0, .int .u8 0, .int .u8 0, .int .u8 0, .int .u8 0, .int .u8 0, .int .u8 0, .int .u8 0, .int .u8 0, .int .u8 0, .int .u8 0, .int .u8 0, .int .u8 0, .int .u8 0, .int .u8 0, .int .u8 0, .int .u8 0, .int .u8 0, .int .u8 0, .int .u8 0, .int .u8 0, .int .u8 0, .int .u8 0, .int .u8 0, .int .u8 0] 74)
  rw [← hW0] at k1 k2 hb0 s0 ⊢
  rw [← z64_lit] at k1 k2
  clear hW0
  have ha1 : NRead W0.drew a m ns := ha.below (hb0.drew)
  go_region_law (first
    | (go_simp; go_at_call 59; refine (put_any _ _ _ ns W0.drew ha1 hok hm).mono ?_; rintro e w1 ⟨s, rfl, hown, hbp⟩; obtain ⟨sp, sc, rfl⟩ := owns_shape hown; have g1 := (hbp.block w.heap.size (by simp; omega)).trans k1; have g2 := (hbp.block (w.heap.size + 1) (by simp; omega)).trans k2; have hpos := owns_pos hown)
    | (refine step_copy_splice rfl (.tmp 4) (.tmp 6) 22 22 rfl 5 Tryz.underlying22 info5s (some ⟨w.heap.size + 1, 0, none⟩) sp 64 64 (putL ns).length sc rfl rfl (w.heap.size + 1) 0 z64 74 g2 (u8s (putL ns)) (by rw [u8s_len]; exact (Nat.min_eq_left hl).symm) (fun h => ⟨rfl, hpos (by rw [u8s_len] at h; exact h)⟩) (by rw [u8s_len, z64_len]; omega) (many_u8 _) (w.heap.size + 1) w1 (Below.refl _ _) (Nat.le_refl _) ?_; intro w4 hg4 hb4))
  have g3 : w4.heap[w.heap.size]? = some (.cells z64.toArray 74 (0, 0)) := (hb4.block w.heap.size (by omega)).trans g1
  have hg5 := hg4.out
  rw [splice_pad (putL ns) hl] at hg5
  have hX : (u8s (padL (putL ns) 64)).toArray.size = 64 := by rw [List.size_toArray, u8s_len, padL_len _ _ hl]
  have h1X : (u8s (padL (putL ns) 64)).toArray.all (·.oneCell') = true := by
    rw [Array.all_eq_true_iff_forall_mem]
    intro x hx
    exact many_u8 _ x (by simpa using hx)
  have hb5 : Below w.heap.size w w4 := ((hb0.drew).trans (hbp.mono (by simp; omega))).trans (hb4.mono (by omega))
  generalize hXe : (u8s (padL (putL ns) 64)).toArray = X at *
  have HXe : Hid ((u8s (padL (putL ns) 64)).toArray = X) := hXe
  clear hXe
  clear hg4 hb4 g1 g2 hpos hown hbp k1 k2 hb0 ha1
  go_wp2_with (first
    | (refine wpList_load_row rfl 74 _ rfl (w.heap.size + 1) rfl 74 X (0, 0) _ hg5 Tryz.underlying74 rfl (by rw [hX]; exact info74b) ?_)
    | (refine wpList_store_row rfl 74 _ _ rfl w.heap.size X rfl rfl 74 _ g3 (by rw [hX]; exact info74b) (by rw [hX]; rfl) h1X ?_))
  refine bodyPost_ret (v := .agg X) (results_cell_row Tryz.results34 _ _ w.heap.size 74 X (0, 0) _ rfl (setRow_heap w4 w.heap.size _ X 74 _ g3) Tryz.underlying74 rfl (by rw [hX]; exact info74b)) rfl ?_
  exact ⟨by rw [HXe.out], below_setRow hb5 (Nat.le_refl _) X⟩
end Go.Proofs.YtonpdbajoidigaaGreatDoor

/-
  The cached disk: what lies in memory; write.
-/
namespace Go.Proofs.YtonpdbajoidigaaGreatDoor
open Go.RowKit
set_option linter.unusedSimpArgs false
set_option linter.unusedVariables false

/-- A write as the cache keeps it. -/
def cwL (x : Int × List Int) : List Value := .int .i64 x.1 :: u8s x.2
def cwsL (ws : List (Int × List Int)) : List Value := ws.flatMap cwL
theorem cwsL_snoc (ws : List (Int × List Int)) (x : Int × List Int) : cwsL (ws ++ [x]) = cwsL ws ++ cwL x := by simp [cwsL]

/-- The map tells for each block its youngest write. -/
structure Young (D : DataW Unit) (ws : List (Int × List Int)) : Prop where
  isMap : Maps.IsMap D
  yes : ∀ b, (Lit.int .i64 b).wf = true → Maps.has D (.int .i64 b) = true → ∃ (i : Nat) (x : Int × List Int), ws[i]? = some x ∧ x.1 = b ∧ (∀ z, D.atKey (.int .i64 b) z = .lit (.int .i64 (i : Int))) ∧ ∀ (j : Nat) (y : Int × List Int), i < j → ws[j]? = some y → y.1 ≠ b
  no : ∀ b, (Lit.int .i64 b).wf = true → Maps.has D (.int .i64 b) = false → ∀ x ∈ ws, x.1 ≠ b

theorem Young.nil : Young (.map []) [] := ⟨Maps.isMap_empty, fun b _ h => by simp [Maps.has_eq] at h, fun b _ _ x hx => by simp at hx⟩

theorem Young.put {D : DataW Unit} {ws : List (Int × List Int)} (h : Young D ws) (b : Int) (hb : (Lit.int .i64 b).wf = true) (X : List Int) :
    Young (D.put (.int .i64 b) (.lit (.int .i64 (ws.length : Int)))) (ws ++ [(b, X)]) := by
  have hk : WideAt.IsKeyLit (Lit.int .i64 b) := by trivial
  refine ⟨h.isMap.put _ _, fun c hc hh => ?_, fun c hc hh => ?_⟩
  · by_cases e : c = b
    · subst e
      refine ⟨ws.length, (c, X), by simp, rfl, fun z => Maps.atKey_put_same h.isMap hk _ z, fun j y hj hy => ?_⟩
      rw [List.getElem?_eq_none (by simp; omega)] at hy
      cases hy
    · have hne : (Lit.int .i64 c) ≠ .int .i64 b := by intro e'; injection e' with _ e2; exact e e2
      rw [Maps.has_put_other hne] at hh
      obtain ⟨i, x, hi, hx, ha, hl⟩ := h.yes c hc hh
      have hlt : i < ws.length := (List.getElem?_eq_some_iff.1 hi).1
      refine ⟨i, x, by rw [List.getElem?_append_left hlt]; exact hi, hx, fun z => by rw [Maps.atKey_put_other hne]; exact ha z, fun j y hj hy => ?_⟩
      by_cases hjl : j < ws.length
      · rw [List.getElem?_append_left hjl] at hy; exact hl j y hj hy
      · rw [List.getElem?_append_right (by omega)] at hy
        by_cases h0 : j - ws.length = 0
        · rw [h0] at hy; simp at hy; subst hy; exact fun e' => e e'.symm
        · rw [List.getElem?_eq_none (by simp; omega)] at hy; cases hy
  · by_cases e : c = b
    · subst e
      rw [Maps.has_put_same h.isMap hk] at hh
      cases hh
    · have hne : (Lit.int .i64 c) ≠ .int .i64 b := by intro e'; injection e' with _ e2; exact e e2
      rw [Maps.has_put_other hne] at hh
      intro x hx
      rw [List.mem_append] at hx
      rcases hx with hx | hx
      · exact h.no c hc hh x hx
      · rw [List.mem_singleton] at hx; subst hx; exact fun e' => e e'.symm

/-- The cached disk at block C: nb blocks of bytes xs, the writes ws. -/
structure CD (B : Nat) (w : World) (C nb : Nat) (xs : List Int) (ws : List (Int × List Int)) (dv wv : Value) (M : Nat) (D : DataW Unit) : Prop where
  cell : w.heap[C]? = some (.cells #[dv, wv, .map (some M)] 91 (0, 0))
  dur : w.ownsRow B 74 64 dv nb (u8s xs)
  wr : w.ownsRow B 93 65 wv ws.length (cwsL ws)
  map : w.ownsMap Tryz.prog 2 (plainElem Tryz.prog 3) M ws.length D
  young : Young D ws
  len : xs.length = nb * 64
  lens : ∀ x ∈ ws, x.2.length = 64 ∧ (Lit.int .i64 x.1).wf = true
  hC : B ≤ C
  hM : B ≤ M

theorem cells3 {w : World} {g : Nat} {x y z : Value} {t : TypeId} (h : w.heap[g]? = some (.cells #[x, y, z] t (0, 0))) :
    w.cell? ⟨g, 0, none⟩ = some x ∧ w.cell? ⟨g, 1, none⟩ = some y ∧ w.cell? ⟨g, 2, none⟩ = some z ∧ (∀ i, w.frozen? ⟨g, i, none⟩ = false) := by
  refine ⟨?_, ?_, ?_, fun i => ?_⟩
  · simpa using cell_of_row w g 0 _ _ _ h
  · simpa using cell_of_row w g 1 _ _ _ h
  · simpa using cell_of_row w g 2 _ _ _ h
  · simp [World.frozen?, h]

end Go.Proofs.YtonpdbajoidigaaGreatDoor

/-
  One element of several cells: built, and handed to append.
-/
namespace Go.Proofs.YtonpdbajoidigaaGreatDoor
open Go.RowKit
set_option linter.unusedSimpArgs false
set_option linter.unusedVariables false

theorem fold_set (off : Nat) : ∀ (vs : List Value) (k : Nat) (cells : Array Value), off + k + vs.length ≤ cells.size →
    (vs.zipIdx k).foldl (fun (cs : Array Value) (x : Value × Nat) => cs.setIfInBounds (off + x.2) x.1) cells = (cells.toList.take (off + k) ++ vs ++ cells.toList.drop (off + k + vs.length)).toArray
  | [], k, cells, h => by simp
  | v :: vs, k, cells, h => by
    rw [List.zipIdx_cons, List.foldl_cons, fold_set off vs (k + 1) _ (by simp at h ⊢; omega)]
    simp only [List.length_cons] at h
    have hl : off + k < cells.toList.length := by simp; omega
    apply Array.ext'
    simp only [List.toList_toArray, Array.toList_setIfInBounds]
    rw [show off + (k + 1) = off + k + 1 by omega, List.take_succ_eq_append_getElem (by simpa using hl), List.take_set_of_le (Nat.le_refl _), List.getElem_set_self, List.drop_set_of_lt (by omega)]
    simp only [List.append_assoc, List.cons_append, List.nil_append, List.length_cons]
    rw [show off + k + 1 + vs.length = off + k + (vs.length + 1) by omega]

theorem fold_agg (off : Nat) (vs : List Value) (cells : Array Value) (h : off + vs.length ≤ cells.size) :
    (Value.agg vs.toArray).cells.zipIdx.foldl (fun (cs : Array Value) (x : Value × Nat) => cs.setIfInBounds (off + x.2) x.1) cells = (cells.toList.take off ++ vs ++ cells.toList.drop (off + vs.length)).toArray := by
  have := fold_set off vs 0 cells (by omega)
  rw [Nat.add_zero] at this
  rw [← this]
  simp [Value.cells]

/-- A slice of one element of several cells. -/
theorem build_one {P : Program} (w : World) (t e : TypeId) (ie : TypeInfo) (z : Value) (vs : List Value) (hu : P.underlying t = some (.slice e)) (hie : P.info? e = some ie) (hz : ie.zero = some z) (hs : ie.size = vs.length) (hsmall : vs.length ≤ 1000) (hpos : 0 < vs.length) :
    (Instr.buildSlice t 1 #[(0, .agg vs.toArray)]).run P w = .ok (.slice (some ⟨w.heap.size, 0, none⟩) 1 1) (w.alloc (.cells vs.toArray e)) := by
  refine run_buildSlice w t e 1 _ _ ie z hu hie hz (by omega) (by omega) ?_
  have hc : (Value.agg vs.toArray).cells.size = ie.size := by simp [Value.cells, hs]
  simp only [Instr.fill, Nat.zero_mul, hc, Nat.zero_add, Nat.one_mul]
  rw [if_neg (by simp)]
  have := fold_agg 0 vs (Array.map (fun x => z.cells[x % z.cells.size]!) (Array.range ie.size)) (by simp [hs])
  simp only [Nat.zero_add, List.take_zero, List.nil_append] at this
  rw [this, List.drop_eq_nil_of_le (by simp [hs])]
  simp

/-- 65 zeros. -/
def z65 : List Value := .int .i64 0 :: z64
theorem info93 : (Tryz.prog.info? 93).map (fun i => (i.zero, i.size, i.bytes)) = some (some (.agg z65.toArray), 65, 72) := by kernel_rfl
theorem info74z : (Tryz.prog.info? 74).map (fun i => (i.zero, i.size, i.bytes)) = some (some (.agg z64.toArray), 64, 64) := by kernel_rfl
theorem infoBB : (Tryz.prog.info? 74).map (·.size) = some 64 := by kernel_rfl
theorem infoCW : (Tryz.prog.info? 93).map (·.size) = some 65 := by kernel_rfl
theorem cwL_len (x : Int × List Int) (h : x.2.length = 64) : (cwL x).length = 65 := by simp [cwL, u8s_len, h]
theorem cwL_one (x : Int × List Int) : ∀ u ∈ cwL x, u.oneCell' = true := by
  intro u hu
  simp only [cwL, List.mem_cons] at hu
  rcases hu with rfl | hu
  · rfl
  · exact many_u8 _ u hu

theorem build_cw (W : World) (b : Int) (X : List Int) (hX : X.length = 64) : (Instr.build 93 #[(0, .int .i64 b), (1, .agg (u8s X).toArray)]).run Tryz.prog W = .ok (.agg (cwL (b, X)).toArray) W := by
  refine run_build W _ _ _ ?_
  have e : ∀ parts, Tryz.prog.built 93 parts = Instr.fill (fun i => #[(0, 1), (1, 64)][i]?) z65.toArray parts := fun parts => by kernel_rfl
  rw [e]
  have h2 : (Value.agg (u8s X).toArray).cells.size = 64 := by simp [Value.cells, u8s_len, hX]
  obtain ⟨Z, hZ⟩ : ∃ Z, z65.toArray.setIfInBounds 0 (.int .i64 b) = Z := ⟨_, rfl⟩
  have hs : Z.size = 65 := by rw [← hZ]; simp; rfl
  have hl : Z.toList = .int .i64 b :: z64 := by rw [← hZ]; simp [z65]
  have h3 := fold_agg 1 (u8s X) Z (by rw [u8s_len, hX, hs]; omega)
  have ht : Z.toList.take 1 = [.int .i64 b] := by rw [hl]; rfl
  have hd : Z.toList.drop (1 + (u8s X).length) = [] := List.drop_eq_nil_of_le (by rw [u8s_len, hX]; simp [hs])
  rw [ht, hd] at h3
  have s1 : Instr.fill (fun i => #[(0, 1), (1, 64)][i]?) z65.toArray [(0, .int .i64 b), (1, .agg (u8s X).toArray)] = Instr.fill (fun i => #[(0, 1), (1, 64)][i]?) Z [(1, .agg (u8s X).toArray)] := by
    rw [← hZ]
    rfl
  show Instr.fill _ _ [(0, .int .i64 b), (1, .agg (u8s X).toArray)] = _
  rw [s1]
  show (if (Value.agg (u8s X).toArray).cells.size ≠ 64 || 1 + (Value.agg (u8s X).toArray).cells.size > Z.size then none else some ((Value.agg (u8s X).toArray).cells.zipIdx.foldl (fun (cs : Array Value) (x : Value × Nat) => cs.setIfInBounds (1 + x.2) x.1) Z)) = _
  rw [h2, hs, if_neg (by decide), h3]
  simp [cwL]

theorem if_wanted {b : Bool} {p q : Prop} (hb : b = true) (h : p) : if b = true then p else q := by rw [if_pos hb]; exact h
theorem wf_nat (n : Nat) (h : n < 4096) : (Lit.int .i64 (n : Int)).wf = true := by
  simp [Lit.wf, IntKind.min, IntKind.max, IntKind.signed, IntKind.bits]
  omega
end Go.Proofs.YtonpdbajoidigaaGreatDoor
