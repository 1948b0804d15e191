/-
  NewI, Hdr, Hds, Fmt, Fmts, Fmti, Hdl.
-/
import Derived.Test.YtonpdbajoidigaaGreatDoorGc
import Derived.Test.YtonpdbajoidigaaGreatDoorGb
import Derived.Test.YtonpdbajoidigaaGreatDoorGi
/-
  NewDisk: the two functions, and the law.
-/
namespace Go.Proofs.YtonpdbajoidigaaGreatDoor
open Go.RowKit

/-- The bytes of a new disk. -/
def newDI (b : Int) : List Int := if 1 ≤ b ∧ b ≤ 1200 then List.replicate (b.toNat * 64) 0 else []

theorem zeros_atI (n i : Nat) : (List.replicate n (0 : Int))[i]?.getD 0 = 0 := by
  by_cases h : i < n <;> simp [h]


theorem two_cellsI {w1 : World} {g : Nat} {t : TypeId} {x y : Value} (h : w1.heap[g]? = some (.cells #[x, y] t (0, 0))) :
    w1.cell? ⟨g, 0, none⟩ = some x ∧ w1.cell? ⟨g, 1, none⟩ = some y ∧ w1.frozen? ⟨g, 0, none⟩ = false ∧ w1.frozen? ⟨g, 1, none⟩ = false := by
  refine ⟨by rw [cell_of_row w1 g 0 _ _ _ h]; rfl, by rw [cell_of_row w1 g 1 _ _ _ h]; rfl, ?_, ?_⟩ <;> simp [World.frozen?, h]

theorem newD_finI {w w1 : World} {n : Nat} {x y u v : Value} {b : Int} (hown : w1.ownsRow w.heap.size 5 1 (.slice (some ⟨w.heap.size + 1, 0, none⟩) (n * 64) (n * 64)) (n * 64) (madeCells #[.int .u8 0] (n * 64)).toList)
    (hgrow : (w.alloc (.cells #[x, y] 33)).grownBy w1 none) (HN : newDI b = List.replicate (n * 64) 0) :
    Row .u8 (fun g => w.heap.size ≤ g ∧ g < ((w1.setCell ⟨w.heap.size, 0, none⟩ u).setCell ⟨w.heap.size, 1, none⟩ v).heap.size) ((w1.setCell ⟨w.heap.size, 0, none⟩ u).setCell ⟨w.heap.size, 1, none⟩ v) (some ⟨w.heap.size + 1, 0, none⟩) (n * 64) (newDI b) ∧
    Below w.heap.size w ((w1.setCell ⟨w.heap.size, 0, none⟩ u).setCell ⟨w.heap.size, 1, none⟩ v) := by
  have hsz := made_size hown
  have e : ((w1.setCell ⟨w.heap.size, 0, none⟩ u).setCell ⟨w.heap.size, 1, none⟩ v).heap.size = w1.heap.size := by simp [World.setCell]
  constructor
  · have r : Row .u8 (fun g => g = w.heap.size + 1) w1 (some ⟨w.heap.size + 1, 0, none⟩) (n * 64) (newDI b) := (made_cells hown).row rfl (by rw [HN]; simp) (by intro i _; rw [HN]; exact zeros_atI _ _)
    have k1 : Kept (fun g => g = w.heap.size) w1 ((w1.setCell ⟨w.heap.size, 0, none⟩ u).setCell ⟨w.heap.size, 1, none⟩ v) := (Kept.setCell w1 ⟨w.heap.size, 0, none⟩ u (fun g => g = w.heap.size) rfl).trans (Kept.setCell _ ⟨w.heap.size, 1, none⟩ v (fun g => g = w.heap.size) rfl)
    exact (r.kept k1 (fun j h1 h2 => by omega)).mono (fun g hg => by rw [e]; omega)
  · have h1 : Below w.heap.size w w1 := ((Below.refl _ _).alloc (Nat.le_refl _) _).trans ((Below.of_grown hgrow).mono (by simp))
    exact (h1.setCell (Nat.le_refl _) _).setCell (Nat.le_refl _) _

set_option maxRecDepth 100000 in
theorem newDisk_implI (b : Int) (w : World) :
    Calls Tryz.prog 14 #[.int .i64 b] w fun e w' => ∃ a n, e = .returned (.agg #[.slice a n n, .slice none 0 0]) ∧ Row .u8 (fun g => w.heap.size ≤ g ∧ g < w'.heap.size) w' a n (newDI b) ∧ n ≤ 76800 ∧ Below w.heap.size w w' := by
  obtain ⟨i0, hi, hz0, hz1, hz2⟩ := info_parts info5
  by_cases hv : 1 ≤ b ∧ b ≤ 1200
  · obtain ⟨n, rfl⟩ := Int.eq_ofNat_of_zero_le (show 0 ≤ b by omega)
    have HN : Hid (newDI (n : Int) = List.replicate (n * 64) 0) := by show _ = _; simp only [newDI, if_pos hv, Int.toNat_natCast]
    obtain ⟨v1, v2⟩ := hv
    go_enter Tryz.func14, Tryz.ntmps14
    go_wp2_with (at_make; refine wpList_make_full _ rfl _ _ 22 rfl w.heap.size 5 i0 (.int .u8 0) 1 Tryz.underlying22 hi hz0 hz1 .i64 .i64 _ _ (n * 64) rfl rfl (by omega) (by omega) ?c1 ?c2 ?c3 ?_)
    case c1 => rw [hz2]; omega
    case c2 => unfold maxLen; omega
    case c3 => simp
    intro w1 hown hgrow
    obtain ⟨q1, q2, q3, q4⟩ := two_cellsI ((hgrow.block w.heap.size (by simp) (by simp)).trans (heap_alloc_new w _))
    have hfin := @newD_finI w w1 n _ _ (.slice (some ⟨w.heap.size + 1, 0, none⟩) (n * 64) (n * 64)) (.slice none 0 0) _ hown hgrow HN.out
    clear hown hgrow hi hz0 hz1 hz2
    go_wp2
    refine bodyPost_ret (v := .agg #[.slice (some ⟨w.heap.size + 1, 0, none⟩) (n * 64) (n * 64), .slice none 0 0]) (by simp [results, Tryz.results14, go_sem, q1, q2]) rfl ?_
    exact ⟨_, _, rfl, hfin.1, by omega, hfin.2⟩
  · have HN : Hid (newDI b = []) := by show _ = _; simp only [newDI, if_neg hv]
    clear hi hz0 hz1 hz2
    by_cases h1 : b < 1
    · go_enter Tryz.func14, Tryz.ntmps14
      go_wp2
      refine bodyPost_ret (v := .agg #[.slice none 0 0, .slice none 0 0]) (by simp [results, Tryz.results14, go_sem]) rfl ?_
      exact ⟨_, _, rfl, ⟨by rw [HN.out]; rfl, .inl rfl⟩, by omega, (Below.refl _ _).alloc (Nat.le_refl _) _⟩
    · have h2 : 1200 < b := by omega
      go_enter Tryz.func14, Tryz.ntmps14
      go_wp2
      refine bodyPost_ret (v := .agg #[.slice none 0 0, .slice none 0 0]) (by simp [results, Tryz.results14, go_sem]) rfl ?_
      exact ⟨_, _, rfl, ⟨by rw [HN.out]; rfl, .inl rfl⟩, by omega, (Below.refl _ _).alloc (Nat.le_refl _) _⟩

end Go.Proofs.YtonpdbajoidigaaGreatDoor

/-
  Headers: validHeader, headerBlock, the program's EncodeHeader.
-/
namespace Go.Proofs.YtonpdbajoidigaaGreatDoor
open Go.RowKit
set_option linter.unusedSimpArgs false
set_option linter.unusedVariables false

def partB (n : Int) : Bool := decide (0 ≤ n) && decide (n ≤ 65535)
def hdrB (s p q : Int) : Bool := (decide (1 ≤ s) && decide (s ≤ 1099511627776)) && (partB p && partB q)
/-- The block of a header. -/
def hdrL (s p q : Int) : List Int := beB s 8 ++ (beB p 2 ++ (beB q 2 ++ (List.replicate 44 0 ++ beB s 8)))
def encH (s p q : Int) : List Int := if hdrB s p q = true then hdrL s p q else []
theorem hdrL_len (s p q : Int) : (hdrL s p q).length = 64 := by simp [hdrL, beB_len]

theorem part_any (n : Int) (w : World) : Calls Tryz.prog 161 #[.int .i64 n] w fun e w' => e = .returned (.bool (partB n)) ∧ w' = w := by
  by_cases h : 0 ≤ n
  · go_enter Tryz.func161, Tryz.ntmps161
    go_wp2
    go_ret
    exact ⟨ret_boolB (by simp [partB, h]), rfl⟩
  · have h' : n < 0 := by omega
    go_enter Tryz.func161, Tryz.ntmps161
    go_wp2
    go_ret
    exact ⟨ret_boolB (by simp [partB]; omega), rfl⟩

set_option maxHeartbeats 1000000 in
theorem validHeader_any (s p q : Int) (w : World) :
    Calls Tryz.prog 105 #[.agg #[.int .i64 s, .int .i64 p, .int .i64 q]] w fun e w' => e = .returned (.bool (hdrB s p q)) ∧ Below w.heap.size w w' := by
  have HB : ∀ o, Below w.heap.size w (w.alloc o) := fun o => (Below.refl _ _).alloc (Nat.le_refl _) o
  by_cases h1 : s < 1
  · go_enter Tryz.func105, Tryz.ntmps105
    go_wp2
    go_ret
    exact ⟨ret_boolB (by simp [hdrB]; omega), HB _⟩
  by_cases h2 : 1099511627776 < s
  · go_enter Tryz.func105, Tryz.ntmps105
    go_wp2
    go_ret
    exact ⟨ret_boolB (by simp [hdrB]; omega), HB _⟩
  have h3 : 1 ≤ s := by omega
  have h4 : s ≤ 1099511627776 := by omega
  clear h1 h2
  have HS : Hid ((decide (1 ≤ s) && decide (s ≤ 1099511627776)) = true) := by show _ = true; simp [h3, h4]
  cases hp : partB p
  · have HF : Hid (hdrB s p q = false) := by show _ = _; rw [hdrB, hp]; simp
    go_enter Tryz.func105, Tryz.ntmps105
    go_wp2_with fail
    refine (part_any p _).mono ?_
    rintro e w1 ⟨rfl, rfl⟩
    rw [hp]
    go_wp2
    go_ret
    exact ⟨ret_boolB HF.out.symm, HB _⟩
  · have HF : Hid (hdrB s p q = partB q) := by show _ = _; rw [hdrB, hp, HS.out]; simp
    go_enter Tryz.func105, Tryz.ntmps105
    go_wp2_with fail
    refine (part_any p _).mono ?_
    rintro e w1 ⟨rfl, rfl⟩
    rw [hp]
    go_wp2_with fail
    refine (part_any q _).mono ?_
    rintro e w1 ⟨rfl, rfl⟩
    go_wp2
    go_ret
    exact ⟨ret_boolB HF.out.symm, HB _⟩

theorem hdr_bounds {s p q : Int} (h : hdrB s p q = true) : (1 ≤ s ∧ s ≤ 1099511627776) ∧ (0 ≤ p ∧ p ≤ 65535) ∧ 0 ≤ q ∧ q ≤ 65535 := by
  simp only [hdrB, partB, Bool.and_eq_true, decide_eq_true_eq] at h
  exact ⟨h.1, h.2.1, h.2.2⟩
theorem beB_zero (n : Nat) : beB 0 n = List.replicate n 0 := by
  induction n with
  | zero => rfl
  | succ n ih =>
    rw [beB, show (0 : Int) / 256 = 0 from rfl, ih, List.replicate_succ']; rfl
def hNums (s p q : Int) : List (Int × Int) := [(8, s), (2, p), (2, q), (44, 0), (8, s)]
theorem hNums_put (s p q : Int) : putL (hNums s p q) = hdrL s p q := by
  simp only [putL, hNums, List.flatMap_cons, List.flatMap_nil, List.append_nil, hdrL]
  rw [show (44 : Int).toNat = 44 from rfl, beB_zero]; rfl
theorem hNums_ok {s p q : Int} (h : hdrB s p q = true) : NOk 5 (hNums s p q) := by
  obtain ⟨⟨a1, a2⟩, ⟨b1, b2⟩, c1, c2⟩ := hdr_bounds h
  intro i hi
  match i, hi with
  | 0, _ => refine ⟨⟨?_, ?_⟩, ?_, ?_⟩ <;> simp [nW, nV, hNums] <;> omega
  | 1, _ => refine ⟨⟨?_, ?_⟩, ?_, ?_⟩ <;> simp [nW, nV, hNums] <;> omega
  | 2, _ => refine ⟨⟨?_, ?_⟩, ?_, ?_⟩ <;> simp [nW, nV, hNums] <;> omega
  | 3, _ => refine ⟨⟨?_, ?_⟩, ?_, ?_⟩ <;> simp [nW, nV, hNums]
  | 4, _ => refine ⟨⟨?_, ?_⟩, ?_, ?_⟩ <;> simp [nW, nV, hNums] <;> omega
theorem padL_full (xs : List Int) (m : Nat) (h : xs.length = m) : padL xs m = xs := by simp [padL, h]
theorem nread5 {w : World} {s p q : Int} {t : TypeId} {g : Nat} (hg : g = w.heap.size) : NRead (w.alloc (.cells #[.int .i64 8, .int .i64 s, .int .i64 2, .int .i64 p, .int .i64 2, .int .i64 q, .int .i64 44, .int .i64 0, .int .i64 8, .int .i64 s] t)) (some ⟨g, 0, none⟩) 5 (hNums s p q) := by
  subst hg
  refine ⟨rfl, .inr ⟨w.heap.size, 0, rfl, fun i hi => ?_⟩⟩
  match i, hi with
  | 0, _ => exact ⟨by rw [World.cell?_alloc_mark]; rfl, by rw [World.cell?_alloc_mark]; rfl⟩
  | 1, _ => exact ⟨by rw [World.cell?_alloc_mark]; rfl, by rw [World.cell?_alloc_mark]; rfl⟩
  | 2, _ => exact ⟨by rw [World.cell?_alloc_mark]; rfl, by rw [World.cell?_alloc_mark]; rfl⟩
  | 3, _ => exact ⟨by rw [World.cell?_alloc_mark]; rfl, by rw [World.cell?_alloc_mark]; rfl⟩
  | 4, _ => exact ⟨by rw [World.cell?_alloc_mark]; rfl, by rw [World.cell?_alloc_mark]; rfl⟩

theorem u8_all (xs : List Int) : (u8s xs).toArray.all (·.oneCell') = true := by
  rw [Array.all_eq_true_iff_forall_mem]
  intro x hx
  exact many_u8 _ x (by simpa using hx)

theorem info74s : (Tryz.prog.info? 74).map (·.size) = some 64 := by kernel_rfl

set_option maxHeartbeats 1000000 in
theorem headerBlock_any (s p q : Int) (w : World) (h : hdrB s p q = true) :
    Calls Tryz.prog 15 #[.agg #[.int .i64 s, .int .i64 p, .int .i64 q]] w fun e w' => e = .returned (.agg (u8s (hdrL s p q)).toArray) ∧ Below w.heap.size w w' := by
  have hok := hNums_ok h
  have hX : (u8s (hdrL s p q)).toArray.size = 64 := by rw [List.size_toArray, u8s_len, hdrL_len]
  have h1X := u8_all (hdrL s p q)
  have HP : Hid (u8s (padL (putL (hNums s p q)) 64) = u8s (hdrL s p q)) := by show _ = _; rw [hNums_put, padL_full _ _ (hdrL_len s p q)]
  have HL : Hid ((putL (hNums s p q)).length ≤ 64) := by show _ ≤ _; rw [hNums_put, hdrL_len]; exact Nat.le_refl _
  clear h
  go_enter Tryz.func15, Tryz.ntmps15
  go_wp2_with fail
  refine (putBlock_any _ _ _ (hNums s p q) _ (by exact nread5 (by simp)) hok (by omega) HL.out).mono ?_
  rintro e w1 ⟨rfl, hb⟩
  rw [HP.out]
  have k2 : w1.heap[w.heap.size + 1]? = some (.cells z64.toArray 74 (0, 0)) := by
    rw [z64_lit]
    exact ((hb.block (w.heap.size + 1) (by simp)).trans (heap_alloc_old _ _ (by simp))).trans (heap_alloc2_new w _ _)
  have hb5 : Below w.heap.size w w1 := ((((Below.refl _ _).alloc (Nat.le_refl _) _).alloc (by simp) _).alloc (by simp; omega) _).trans (hb.mono (by simp; omega))
  generalize hXe : (u8s (hdrL s p q)).toArray = X at *
  have HXe : Hid ((u8s (hdrL s p q)).toArray = X) := hXe
  clear hXe hb hok
  go_wp2_with (refine wpList_store_row rfl 74 _ _ rfl (w.heap.size + 1) X rfl rfl 74 _ k2 (by rw [hX]; exact info74s) (by rw [hX]; rfl) h1X ?_)
  refine bodyPost_ret (v := .agg X) (results_cell_row Tryz.results15 _ _ (w.heap.size + 1) 74 X (0, 0) _ rfl (setRow_heap w1 (w.heap.size + 1) _ X 74 _ k2) Tryz.underlying74 rfl (by rw [hX]; exact info74s)) rfl ?_
  exact ⟨by rw [HXe.out], below_setRow hb5 (by omega) X⟩

theorem row_of_block {w : World} {g : Nat} {xs : List Int} {G : Nat → Prop} {t : TypeId} (hg : w.heap[g]? = some (.cells (u8s xs).toArray t (0, 0))) (hG : G g) : Row .u8 G w (some ⟨g, 0, none⟩) xs.length xs := by
  refine ⟨rfl, .inr ⟨g, 0, rfl, hG, fun i hi => ?_⟩⟩
  rw [Nat.zero_add]
  refine ⟨?_, frozen_of_row w g i _ t hg⟩
  rw [cell_of_row w g i _ t _ hg]
  simp [u8s, hi]

end Go.Proofs.YtonpdbajoidigaaGreatDoor

/-
  Headers: the specification's EncodeHeader.
-/
namespace Go.Proofs.YtonpdbajoidigaaGreatDoor
open Go.RowKit
set_option linter.unusedSimpArgs false
set_option linter.unusedVariables false

/-- append on a row of the call's own, as one step of a region that draws. -/
theorem step_append_own {P : Program} {ops : Array Oper} {o : Oper} {a : Act} {w : World} {K : Act → World → Prop} {Q : Exit → Act → World → Prop} {E : Prop}
    (hg : o.guard = none) (s x : Operand) (t : TypeId) (hop : o.op = Op.call { callee := Callee.builtin Builtin.append, args := #[s, x], argTypes := #[t, t] })
    (base : Nat) (e : TypeId) (i : TypeInfo) (z : Value) (size bytes : Nat) (h1 : P.underlying t = some (.slice e)) (h2 : P.info? e = some i) (h3 : i.zero = some z) (h4 : i.size = size) (h5 : i.bytes = bytes) (h6 : z.cells.size = size) (h7 : 0 < size)
    (v : Value) (n : Nat) (xs : List Value) (hs : a.eval s = v) (hown : w.ownsRow base e size v n xs)
    (ad : Addr) (m c : Nat) (news : List Value) (hx : a.eval x = .slice (some ad) m c) (hn : news.length = m * size) (hc : ∀ j u, news[j]? = some u → w.cell? (ad.add j) = some u) (h1c : ∀ u ∈ news, u.oneCell' = true)
    (b1 : n + m ≤ maxLen) (b2 : (n + m) * bytes ≤ 140737488355328) (b3 : base ≤ w.heap.size)
    (hK : ∀ v' w', w'.ownsRow base e size v' (n + m) (xs ++ news) → w.grownBy w' v.ownBlock → K (a.put o.dst v') w') :
    if Region.wanted o (yielded ops a.tmps) = true then Oper.wp P o a w K Q else E := by
  have hw : Region.wanted o (yielded ops a.tmps) = true := by simp [Region.wanted, hg]
  rw [if_pos hw]
  obtain ⟨v', w', hrun, r1, r2, _⟩ := run_append_own (P := P) w base t o.type e i z size bytes h1 h2 h3 h4 h5 h6 h7 v n xs hown ad m c news hn hc h1c b1 b2 b3
  unfold Oper.wp
  simp [execOp, hop, resolve, invoke, builtin, hs, hx, hrun, Result.andThen]
  exact hK v' w' r1 r2

theorem owns_belowH {w w' : World} {B e sz n : Nat} {s : Value} {xs : List Value} (h : w.ownsRow B e sz s n xs) (hb : Below w.heap.size w w') : w'.ownsRow B e sz s n xs :=
  h.kept (row := none) ⟨hb.os, hb.tape, hb.output, hb.size, fun k hk _ => hb.block k hk⟩ (by cases hv : s.ownBlock <;> simp)
theorem owns_baseH {w : World} {B B' e sz n : Nat} {s : Value} {xs : List Value} (h : w.ownsRow B e sz s n xs) (hB : B' ≤ B) : w.ownsRow B' e sz s n xs := by
  refine ⟨h.1, h.2.imp id ?_⟩
  rintro ⟨g, cap, cur, e1, hg, rest⟩
  exact ⟨g, cap, cur, e1, by omega, rest⟩
theorem three_cells {w1 : World} {g : Nat} {t : TypeId} {x y z : Value} (h : w1.heap[g]? = some (.cells #[x, y, z] t (0, 0))) : w1.cell? ⟨g, 0, none⟩ = some x ∧ w1.cell? ⟨g, 1, none⟩ = some y ∧ w1.cell? ⟨g, 2, none⟩ = some z :=
  ⟨by rw [cell_of_row w1 g 0 _ _ _ h]; rfl, by rw [cell_of_row w1 g 1 _ _ _ h]; rfl, by rw [cell_of_row w1 g 2 _ _ _ h]; rfl⟩

theorem hdr_bad {s p q : Int} (h : ¬ ((1 ≤ s ∧ s ≤ 1099511627776) ∧ (0 ≤ p ∧ p ≤ 65535) ∧ 0 ≤ q ∧ q ≤ 65535)) : encH s p q = [] := by
  unfold encH
  rw [if_neg (fun e => h (hdr_bounds e))]
theorem hdr_good {s p q : Int} (h : (1 ≤ s ∧ s ≤ 1099511627776) ∧ (0 ≤ p ∧ p ≤ 65535) ∧ 0 ≤ q ∧ q ≤ 65535) : encH s p q = hdrL s p q := by
  unfold encH
  rw [if_pos (by simp only [hdrB, partB, Bool.and_eq_true, decide_eq_true_eq]; exact ⟨h.1, h.2.1, h.2.2⟩)]

theorem hdrL_pad (s p q : Int) : hdrL s p q = padL (beB s 8 ++ beB p 2 ++ beB q 2) 56 ++ beB s 8 := by
  simp only [hdrL, padL, List.length_append, beB_len, List.append_assoc]

end Go.Proofs.YtonpdbajoidigaaGreatDoor

/-
  FormatDisk: what is wanted of l2Pad, NewDisk, regionStart at a disk's size.
-/
namespace Go.Proofs.YtonpdbajoidigaaGreatDoor
open Go.RowKit
set_option linter.unusedSimpArgs false
set_option linter.unusedVariables false

theorem made_block {w1 : World} {B g n e : Nat} (h : w1.ownsRow B e 1 (.slice (some ⟨g, 0, none⟩) n n) n (madeCells #[.int .u8 0] n).toList) : w1.heap[g]? = some (.cells (u8s (List.replicate n 0)).toArray e (0, 0)) := by
  have em : (madeCells #[Value.int .u8 0] n).toList = u8s (List.replicate n 0) := by rw [toList_madeCells_one]; simp [u8s]
  rw [em] at h
  rcases h.2 with ⟨h0, _⟩ | ⟨g', cap, cur, e1, hB, hg, hc, hm, hsz, ht⟩
  · cases h0
  · injection e1 with e1 e2 e3
    injection e1 with e1
    injection e1 with e1 _ _
    subst e1; subst e3
    rw [hg]
    rw [Nat.mul_one] at ht hsz
    rw [List.take_of_length_le (by simp [hsz])] at ht
    rw [← ht]

set_option maxRecDepth 100000 in
theorem newDisk_block (n : Nat) (w : World) (v1 : 1 ≤ n) (v2 : n ≤ 1200) :
    Calls Tryz.prog 14 #[.int .i64 (n : Int)] w fun e w' => e = .returned (.agg #[.slice (some ⟨w.heap.size + 1, 0, none⟩) (n * 64) (n * 64), .slice none 0 0]) ∧ w'.heap[w.heap.size + 1]? = some (.cells (u8s (List.replicate (n * 64) 0)).toArray 5 (0, 0)) ∧ Below w.heap.size w w' := by
  obtain ⟨i0, hi, hz0, hz1, hz2⟩ := info_parts info5
  have HN : Hid (newDI (n : Int) = List.replicate (n * 64) 0) := by show _ = _; simp only [newDI, if_pos (show 1 ≤ (n : Int) ∧ (n : Int) ≤ 1200 by omega), Int.toNat_natCast]
  go_enter Tryz.func14, Tryz.ntmps14
  go_wp2_with (at_make; refine wpList_make_full _ rfl _ _ 22 rfl w.heap.size 5 i0 (.int .u8 0) 1 Tryz.underlying22 hi hz0 hz1 .i64 .i64 _ _ (n * 64) rfl rfl (by omega) (by omega) ?c1 ?c2 ?c3 ?_)
  case c1 => rw [hz2]; omega
  case c2 => unfold maxLen; omega
  case c3 => simp
  intro w1 hown hgrow
  obtain ⟨q1, q2, q3, q4⟩ := two_cellsI ((hgrow.block w.heap.size (by simp) (by simp)).trans (heap_alloc_new w _))
  have hfin := @newD_finI w w1 n _ _ (.slice (some ⟨w.heap.size + 1, 0, none⟩) (n * 64) (n * 64)) (.slice none 0 0) _ hown hgrow HN.out
  have hblk := made_block hown
  have hbl2 : ∀ u v, ((w1.setCell ⟨w.heap.size, 0, none⟩ u).setCell ⟨w.heap.size, 1, none⟩ v).heap[w.heap.size + 1]? = some (.cells (u8s (List.replicate (n * 64) 0)).toArray 5 (0, 0)) := fun u v => (Below.heap_setCell _ _ _ _ (by show w.heap.size + 1 ≠ w.heap.size; omega)).trans ((Below.heap_setCell _ _ _ _ (by show w.heap.size + 1 ≠ w.heap.size; omega)).trans hblk)
  have HB : Hid (∀ u v, ((w1.setCell ⟨w.heap.size, 0, none⟩ u).setCell ⟨w.heap.size, 1, none⟩ v).heap[w.heap.size + 1]? = some (.cells (u8s (List.replicate (n * 64) 0)).toArray 5 (0, 0))) := hbl2
  clear hown hgrow hi hz0 hz1 hz2 hblk hbl2
  go_wp2
  refine bodyPost_ret (v := .agg #[.slice (some ⟨w.heap.size + 1, 0, none⟩) (n * 64) (n * 64), .slice none 0 0]) (by simp [results, Tryz.results14, go_sem, q1, q2]) rfl ?_
  exact ⟨rfl, HB.out _ _, hfin.2⟩

/-- The bytes of a formatted disk. -/
def fmtL (s b : Int) : List Int := padL (List.replicate (((1 + nblk (2 * (s * b))) * 64).toNat) 0 ++ hdrL 1 s b) (((logN s b + s * b) * 64).toNat)
def fmtR (s b : Int) : List Int := if vG s b = true then fmtL s b else []
theorem hdr_ok {s b : Int} (h : vG s b = true) : hdrB 1 s b = true := by
  obtain ⟨h1, h2, h3, h4⟩ := vG_yes h
  simp [hdrB, partB]; omega

theorem regionStart_any (x0 T x2 x3 x4 : Int) (w : World) (h0 : 0 ≤ T) (h1 : T ≤ 33) :
    Calls Tryz.prog 16 #[.int .i64 1, .agg #[.int .i64 x0, .int .i64 T, .int .i64 x2, .int .i64 x3, .int .i64 x4]] w fun e w' => e = .returned (.int .i64 (1 + T)) ∧ Below w.heap.size w w' := by
  go_enter Tryz.func16, Tryz.ntmps16
  go_wp2
  go_ret
  exact ⟨ret_int (by omega), (Below.refl _ _).alloc (Nat.le_refl _) _⟩

set_option maxHeartbeats 1000000 in
theorem implFmt_bad (s b : Int) (w : World) (hv : vG s b = false) :
    Calls Tryz.prog 7 #[.agg #[.int .i64 s, .int .i64 b]] w fun e w' => e = .returned (.agg #[.slice none 0 0, .slice none 0 0]) ∧ Below w.heap.size w w' := by
  go_enter Tryz.func7, Tryz.ntmps7
  go_wp2_with fail
  refine (validGeometry_any s b _).mono ?_
  rintro e w1 ⟨rfl, hb1⟩
  rw [hv]
  obtain ⟨k0, k1, hB⟩ := two_kept hb1
  obtain ⟨⟨d0, d1⟩, f0, f1⟩ := cells2g k1
  clear hb1 k0 k1
  go_wp2
  refine bodyPost_ret (v := .agg #[.slice none 0 0, .slice none 0 0]) (by simp [results, Tryz.results7, go_sem, d0, d1]) rfl ?_
  exact ⟨rfl, (hB.setCell (p := ⟨w.heap.size + 1, 0, none⟩) (Nat.le_succ _) _).setCell (p := ⟨w.heap.size + 1, 1, none⟩) (Nat.le_succ _) _⟩
end Go.Proofs.YtonpdbajoidigaaGreatDoor

/-
  The specification's FormatDisk, at a valid geometry.
-/
namespace Go.Proofs.YtonpdbajoidigaaGreatDoor
open Go.RowKit
set_option linter.unusedSimpArgs false
set_option linter.unusedVariables false

theorem owns_baseF {w : World} {B B' e sz n : Nat} {s : Value} {xs : List Value} (h : w.ownsRow B e sz s n xs) (hB : B' ≤ B) : w.ownsRow B' e sz s n xs := by
  refine ⟨h.1, h.2.imp id ?_⟩
  rintro ⟨g, cap, cur, e1, hg, rest⟩
  exact ⟨g, cap, cur, e1, by omega, rest⟩
theorem layA_nat {s b : Int} {T N : Nat} (h : vG s b = true) (hT : nblk (2 * (s * b)) = (T : Int)) (hN : logN s b + s * b = (N : Int)) : layA s b = #[.int .i64 (s * b), .int .i64 (T : Int), .int .i64 (logN s b), .int .i64 (N : Int), .int .i64 (s * b - 2 * b)] := by
  unfold layA; rw [h, hT, hN]; rfl
theorem fmt_bounds {s b : Int} {T N : Nat} (h : vG s b = true) (hT : nblk (2 * (s * b)) = (T : Int)) (hN : logN s b + s * b = (N : Int)) : T ≤ 33 ∧ N ≤ 1100 ∧ 2 * (1 + T) + 8 ≤ N := by
  obtain ⟨m1, m2⟩ := vG_mul h
  unfold logN at hN
  rw [hT] at hN
  unfold nblk at hT
  omega

end Go.Proofs.YtonpdbajoidigaaGreatDoor

/-
  The program's FormatDisk, at a valid geometry.
-/
namespace Go.Proofs.YtonpdbajoidigaaGreatDoor
open Go.RowKit
set_option linter.unusedSimpArgs false
set_option linter.unusedVariables false

theorem kept_setRow (w : World) (g : Nat) (cs : Array Value) : Kept (fun x => x = g) w (w.setRow g cs) :=
  ⟨rfl, rfl, rfl, by simp [World.setRow], fun j _ hj => setRow_other w g j cs hj⟩
theorem step_copy_kept {P : Program} {ops : Array Oper} {o : Oper} {a : Act} {w : World} {K : Act → World → Prop} {Q : Exit → Act → World → Prop} {E : Prop} (hgd : o.guard = none) (d s : Operand) (dT sT : TypeId)
    (ho : o.op = .call { callee := .builtin .copy, args := #[d, s], argTypes := #[dT, sT] }) (elem : TypeId) (hu : P.underlying dT = some (.slice elem)) (hsz : (P.info? elem).map (·.size) = some 1)
    (dLen dCap sLen sCap g off : Nat) (ad : Addr) (hd : a.eval d = .slice (some ⟨g, off, none⟩) dLen dCap) (hs : a.eval s = .slice (some ad) sLen sCap)
    (cur : List Value) (t : TypeId) (hg : w.heap[g]? = some (.cells cur.toArray t (0, 0))) (cs : List Value) (hn : cs.length = Nat.min sLen dLen)
    (hsrc : ∀ j v, cs[j]? = some v → w.cell? (ad.add j) = some v) (hfit : off + cs.length ≤ cur.length) (h1 : ∀ v ∈ cs, v.oneCell' = true)
    (h : ∀ w', Hid (w'.heap[g]? = some (.cells (splice cur off cs).toArray t (0, 0))) → Kept (fun x => x = g) w w' → K (a.put o.dst (goInt cs.length)) w') :
    if Region.wanted o (yielded ops a.tmps) = true then Oper.wp P o a w K Q else E := by
  have hw : Region.wanted o (yielded ops a.tmps) = true := by simp [Region.wanted, hgd]
  rw [if_pos hw]
  have hrun := run_copy_row (P := P) w dT sT o.type elem g off dLen dCap ad sLen sCap cur.toArray t cs hu hsz hg hn hsrc (by simpa using hfit) h1
  unfold Oper.wp
  simp [execOp, ho, resolve, invoke, builtin, hd, hs, hrun, Result.andThen]
  exact h _ (show _ = _ by simpa [splice] using setRow_heap w g _ _ t _ hg) (kept_setRow w g _)
theorem src_cells {w : World} {g : Nat} {H : List Int} {t : TypeId} (h : w.heap[g]? = some (.cells (u8s H).toArray t (0, 0))) : ∀ j v, (u8s H)[j]? = some v → w.cell? ((⟨g, 0, none⟩ : Addr).add j) = some v := by
  intro j v hj
  have e : (⟨g, 0, none⟩ : Addr).add j = ⟨g, j, none⟩ := by
    unfold Addr.add
    by_cases h0 : j = 0 <;> simp [h0]
  rw [e, cell_of_row w g j _ _ _ h]
  simpa using hj
theorem after_row (w : World) (old X : Array Value) (t : TypeId) : ((w.alloc (.cells old t)).setRow w.heap.size X).heap[w.heap.size]? = some (.cells X t (0, 0)) ∧ Below w.heap.size w ((w.alloc (.cells old t)).setRow w.heap.size X) ∧ w.heap.size < ((w.alloc (.cells old t)).setRow w.heap.size X).heap.size := by
  have h := setRow_heap (w.alloc (.cells old t)) w.heap.size old X t (0, 0) (heap_alloc_new w _)
  exact ⟨h, below_setRow ((Below.refl _ _).alloc (Nat.le_refl _) _) (Nat.le_refl _) X, (Array.getElem?_eq_some_iff.1 h).1⟩
theorem fmt_splice (T N : Nat) (H : List Int) (hl : H.length = 64) (h : (1 + T) * 64 + 64 ≤ N * 64) : splice (u8s (List.replicate (N * 64) 0)) ((1 + T) * 64) (u8s H) = u8s (padL (List.replicate ((1 + T) * 64) 0 ++ H) (N * 64)) := by
  simp only [splice, padL, u8s, List.map_append, List.map_replicate, List.length_map, List.length_append, List.length_replicate, List.take_replicate, List.drop_replicate, List.append_assoc, hl]
  rw [Nat.min_eq_left (by omega), show N * 64 - ((1 + T) * 64 + 64) = N * 64 - ((1 + T) * 64 + 64) from rfl]

set_option maxHeartbeats 4000000 in
set_option maxRecDepth 100000 in
theorem implFmt_good (s b : Int) (T N : Nat) (w : World) (hv : vG s b = true) (hT : nblk (2 * (s * b)) = (T : Int)) (hN : logN s b + s * b = (N : Int)) :
    Calls Tryz.prog 7 #[.agg #[.int .i64 s, .int .i64 b]] w fun e w' => ∃ a c, e = .returned (.agg #[.slice a (N * 64) c, .slice none 0 0]) ∧ Row .u8 (fun g => w.heap.size ≤ g ∧ g < w'.heap.size) w' a (N * 64) (padL (List.replicate ((1 + T) * 64) 0 ++ hdrL 1 s b) (N * 64)) ∧ Below w.heap.size w w' := by
  obtain ⟨v1, v2, v3⟩ := fmt_bounds hv hT hN
  have hL := layout_impl s b
  rw [layA_nat hv hT hN] at hL
  have hE := fun v => headerBlock_any 1 s b v (hdr_ok hv)
  have hX : (u8s (hdrL 1 s b)).toArray.size = 64 := by rw [List.size_toArray, u8s_len, hdrL_len]
  have h1X := u8_all (hdrL 1 s b)
  have HL : Hid ((hdrL 1 s b).length = 64) := hdrL_len 1 s b
  clear hT hN
  generalize hdrL 1 s b = H at *
  generalize s * b = P at *
  generalize logN s b = L at *
  go_enter Tryz.func7, Tryz.ntmps7
  go_wp2_with fail
  refine (validGeometry_any s b _).mono ?_
  rintro e w1 ⟨rfl, hb1⟩
  rw [hv]
  obtain ⟨k0, k1, hB1⟩ := two_kept hb1
  obtain ⟨⟨c0, c1⟩, _, _⟩ := cells2g k0
  clear hb1 hv
  go_wp2_with fail
  refine (hL _).mono ?_
  rintro e w2 ⟨rfl, hb2⟩
  have z0 := (Array.getElem?_eq_some_iff.1 k0).1
  have z1 := (Array.getElem?_eq_some_iff.1 k1).1
  have j0 := (hb2.block w.heap.size z0).trans k0
  have j1 := (hb2.block (w.heap.size + 1) z1).trans k1
  have hB2 := hB1.trans (hb2.mono hB1.size)
  have y0 := (Array.getElem?_eq_some_iff.1 j0).1
  have y1 := (Array.getElem?_eq_some_iff.1 j1).1
  clear hb2 hL k0 k1 c0 c1 hB1 z0 z1
  go_wp2_with fail
  refine (newDisk_block N _ (by omega) (by omega)).mono ?_
  rintro e w3 ⟨rfl, g3, hb3⟩
  have es : ∀ o, (w2.alloc o).heap.size = w2.heap.size + 1 := fun _ => by simp
  rw [es] at g3 ⊢
  have hb3' : Below w2.heap.size w2 w3 := ((Below.refl _ _).alloc (Nat.le_refl _) _).trans (hb3.mono (by simp))
  have p3 := (hb3.block w2.heap.size (by simp)).trans (heap_alloc_new w2 _)
  have j3 := (hb3'.block w.heap.size y0).trans j0
  have r3 := (hb3'.block (w.heap.size + 1) y1).trans j1
  have hB3 := hB2.trans (hb3'.mono hB2.size)
  have s3 := (Array.getElem?_eq_some_iff.1 g3).1
  have HG : Hid (w3.heap[w2.heap.size + 1 + 1]? = some (.cells (u8s (List.replicate (N * 64) 0)).toArray 5 (0, 0))) := g3
  clear hb3 hb3' j0 j1 hB2 es g3
  obtain ⟨⟨c0, c1⟩, _, _⟩ := cells2g j3
  have lt0 : w.heap.size < w3.heap.size := by omega
  go_wp2_with fail
  refine (hE _).mono ?_
  rintro e w4 ⟨rfl, hb4⟩
  have hb4' : Below w3.heap.size w3 w4 := ((Below.refl _ _).alloc (Nat.le_refl _) _).trans (hb4.mono (by simp))
  have d4 := (hb4.block w3.heap.size (by simp)).trans (heap_alloc_new w3 _)
  have p4 := (hb4'.block w2.heap.size (by omega)).trans p3
  have r4 := (hb4'.block (w.heap.size + 1) (by omega)).trans r3
  have HG4 : Hid (w4.heap[w2.heap.size + 1 + 1]? = some (.cells (u8s (List.replicate (N * 64) 0)).toArray 5 (0, 0))) := (hb4'.block _ s3).trans HG.out
  have hB4 := hB3.trans (hb4'.mono hB3.size)
  have s4 := (Array.getElem?_eq_some_iff.1 d4).1
  clear hb4 hb4' p3 r3 hB3 HG c0 c1 j3 hE
  generalize hXe : (u8s H).toArray = X at *
  have HXe : Hid ((u8s H).toArray = X) := hXe
  clear hXe
  go_wp2_with (refine wpList_store_row rfl 74 _ _ rfl w4.heap.size X rfl rfl 74 _ (heap_alloc_new w4 _) (by rw [hX]; exact info74s) (by rw [hX]; rfl) h1X ?_)
  obtain ⟨W5, hW5⟩ : ∃ W5, W5 = World.setRow (w4.alloc (.cells z64.toArray 74)) w4.heap.size X := ⟨_, rfl⟩
  obtain ⟨x5, hb5, s5⟩ := after_row w4 z64.toArray X 74
  rw [← hW5] at x5 hb5 s5
  rw [z64_lit] at hW5
  rw [← hW5]
  have d5 := (hb5.block _ s4).trans d4
  have p5 := (hb5.block w2.heap.size (by omega)).trans p4
  have r5 := (hb5.block (w.heap.size + 1) (by omega)).trans r4
  have HG5 : Hid (W5.heap[w2.heap.size + 1 + 1]? = some (.cells (u8s (List.replicate (N * 64) 0)).toArray 5 (0, 0))) := (hb5.block _ (by omega)).trans HG4.out
  have hB5 := hB4.trans (hb5.mono hB4.size)
  clear hW5 hb5 HG4 d4 p4 r4 hB4
  obtain ⟨⟨c0, c1⟩, _, _⟩ := cells2g d5
  obtain ⟨⟨e0, e1, e2, e3, e4⟩, _, _, _, _, _⟩ := cells5 p5
  obtain ⟨M, hM⟩ : ∃ M, (1 + T) * 64 = M := ⟨_, rfl⟩
  have HM : Hid ((1 + T) * 64 = M) := hM
  have hw : IntKind.i64.wrap ((1 + (T : Int)) * 64) = (M : Int) := by rw [IntKind.wrap_i64]; omega
  have m1 : (M : Int) ≤ (N : Int) * 64 := by omega
  have m2 : ¬ N * 64 = M := by omega
  have m3 : M + 64 ≤ N * 64 := by omega
  have m4 : (0 : Int) ≤ (M : Int) := by omega
  clear hM
  go_region_law (first
    | (go_simp; go_at_call 16; refine (regionStart_any _ _ _ _ _ W5.drew (by omega) (by omega)).mono ?_; rintro e w6 ⟨rfl, hb6⟩; have d6 := (hb6.block _ (show w3.heap.size < W5.heap.size by omega)).trans d5; have x6 := (hb6.block _ (show w4.heap.size < W5.heap.size by omega)).trans x5; have r6 := (hb6.block _ (show w.heap.size + 1 < W5.heap.size by omega)).trans r5; have HG6 : Hid (w6.heap[w2.heap.size + 1 + 1]? = some (.cells (u8s (List.replicate (N * 64) 0)).toArray 5 (0, 0))) := (hb6.block _ (show w2.heap.size + 1 + 1 < W5.heap.size by omega)).trans HG5.out; have hB6 : Below w.heap.size w w6 := hB5.drew.trans (hb6.mono hB5.size); obtain ⟨⟨c06, c16⟩, _, _⟩ := cells2g d6)
    | (refine step_copy_kept rfl (.tmp 26) (.tmp 27) 22 22 rfl 5 Tryz.underlying22 info5s (N * 64 - M) (N * 64 - M) 64 64 (w2.heap.size + 1 + 1) M ⟨w4.heap.size, 0, none⟩ rfl rfl (u8s (List.replicate (N * 64) 0)) 5 HG6.out (u8s H) (by rw [u8s_len, HL.out]; exact (Nat.min_eq_left (by omega)).symm) (src_cells (t := 74) (by rw [HXe.out]; exact x6)) (by rw [u8s_len, u8s_len, HL.out]; simp; omega) (many_u8 _) ?_; intro w7 hg7 hk7))
  all_goals
    have hg8 := hg7.out
    rw [← HM.out, fmt_splice T N H HL.out (by have := HM.out; omega)] at hg8
    have HG8 : Hid (w7.heap[w2.heap.size + 1 + 1]? = some (.cells (u8s (padL (List.replicate ((1 + T) * 64) 0 ++ H) (N * 64))).toArray 5 (0, 0))) := hg8
    have d7 := (hk7.block w3.heap.size (by have := (Array.getElem?_eq_some_iff.1 d6).1; omega) (by omega)).trans d6
    have r7 := (hk7.block (w.heap.size + 1) (by have := (Array.getElem?_eq_some_iff.1 r6).1; omega) (by omega)).trans r6
    have hB7 : Below w.heap.size w w7 := hB6.trans (hk7.below hB6.size (fun g hg => by omega))
    have s7 := (Array.getElem?_eq_some_iff.1 hg8).1
    obtain ⟨⟨q0, q1⟩, _, _⟩ := cells2g d7
    obtain ⟨⟨x0, x1⟩, f0, f1⟩ := cells2g r7
    have k8 := fun v0 v1 => (Kept.setCell w7 ⟨w.heap.size + 1, 0, none⟩ v0 (fun g => g = w.heap.size + 1) rfl).trans (Kept.setCell _ ⟨w.heap.size + 1, 1, none⟩ v1 (fun g => g = w.heap.size + 1) rfl)
    have hB8 := fun v0 v1 => (hB7.setCell (p := ⟨w.heap.size + 1, 0, none⟩) (Nat.le_succ _) v0).setCell (p := ⟨w.heap.size + 1, 1, none⟩) (Nat.le_succ _) v1
    have hl9 : (padL (List.replicate ((1 + T) * 64) 0 ++ H) (N * 64)).length = N * 64 := padL_len _ _ (by rw [List.length_append, List.length_replicate, HL.out]; omega)
    have row9 := fun v0 v1 => row_of_block (G := fun g => w.heap.size ≤ g ∧ g < ((w7.setCell ⟨w.heap.size + 1, 0, none⟩ v0).setCell ⟨w.heap.size + 1, 1, none⟩ v1).heap.size) (((k8 v0 v1).block (w2.heap.size + 1 + 1) s7 (by omega)).trans HG8.out) ⟨by omega, by simp [World.setCell]; omega⟩
    rw [hl9] at row9
    have HR : Hid (∀ v0 v1, Row .u8 (fun g => w.heap.size ≤ g ∧ g < ((w7.setCell ⟨w.heap.size + 1, 0, none⟩ v0).setCell ⟨w.heap.size + 1, 1, none⟩ v1).heap.size) ((w7.setCell ⟨w.heap.size + 1, 0, none⟩ v0).setCell ⟨w.heap.size + 1, 1, none⟩ v1) (some ⟨w2.heap.size + 1 + 1, 0, none⟩) (N * 64) (padL (List.replicate ((1 + T) * 64) 0 ++ H) (N * 64))) := row9
    clear hg7 hg8 hk7 k8 row9 hl9 HG8 hw m1 m2 m3 m4
    go_wp2
    refine bodyPost_ret (v := .agg #[.slice (some ⟨w2.heap.size + 1 + 1, 0, none⟩) (N * 64) (N * 64), .slice none 0 0]) (by simp [results, Tryz.results7, go_sem, x0, x1]) rfl ?_
    exact ⟨_, _, rfl, HR.out _ _, hB8 _ _⟩
end Go.Proofs.YtonpdbajoidigaaGreatDoor

/-
  FnExactEncodeHeader: the law's walk.
-/
namespace Go.Proofs.YtonpdbajoidigaaGreatDoor
open Go.RowKit
set_option linter.unusedSimpArgs false
set_option linter.unusedVariables false

theorem encH_len (s p q : Int) : (encH s p q).length ≤ 64 := by
  unfold encH
  split
  · rw [hdrL_len]; exact Nat.le_refl _
  · simp
theorem Row.drewH {k : IntKind} {G : Nat → Prop} {w : World} {a : Option Addr} {n : Nat} {xs : List Int} (h : Row k G w a n xs) (d : Nat) : Row k G (w.drewN d) a n xs := h
theorem below_dH {w : World} (d : Nat) : Below w.heap.size w (w.drewN d) := below_drewN (Below.refl _ _) d

end Go.Proofs.YtonpdbajoidigaaGreatDoor
