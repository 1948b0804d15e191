/-
  Ina, Sp0, Spb.
-/
import Derived.Test.YtonpdbajoidigaaGreatDoorGm
import Derived.Test.YtonpdbajoidigaaGreatDoorCop
import Derived.Test.YtonpdbajoidigaaGreatDoorGe
import Derived.Test.YtonpdbajoidigaaGreatDoorGf
import Derived.Test.YtonpdbajoidigaaGreatDoorGg
import Derived.Test.YtonpdbajoidigaaGreatDoorGh
import Derived.Test.YtonpdbajoidigaaGreatDoorGi
import Derived.Test.YtonpdbajoidigaaGreatDoorGj
import Derived.Test.YtonpdbajoidigaaGreatDoorGk
import Derived.Test.YtonpdbajoidigaaGreatDoorGl
import Derived.Test.YtonpdbajoidigaaGreatDoorGd
import Derived.Lib.Hide
/-
  inodeBlock, the program's.
-/
namespace Go.Proofs.YtonpdbajoidigaaGreatDoor
open Go.RowKit
set_option linter.unusedSimpArgs false
set_option linter.unusedVariables false

/-- The numbers of an inode. -/
def nmNums (l : List Int) : List (Int × Int) := l.map fun b => (1, b)
def lidNums (xs : List Int) : List (Int × Int) := xs.map fun x => (2, x)
def iNums (nm : ByteArray) (z : Int) (xs : List Int) : List (Int × Int) := nmNums (nmL nm) ++ [(16 - (nm.size : Int), 0), (2, z)] ++ lidNums xs
theorem heap_alloc_oldI (w : World) (o : Obj) {r : Nat} (h : r < w.heap.size) : (w.alloc o).heap[r]? = w.heap[r]? := ((Below.refl w.heap.size w).alloc (Nat.le_refl _) o).block r h
theorem putL_append (a b : List (Int × Int)) : putL (a ++ b) = putL a ++ putL b := by simp [putL]
theorem beB_zeroI (n : Nat) : beB 0 n = List.replicate n 0 := by
  induction n with
  | zero => rfl
  | succ n ih =>
    rw [beB, show (0 : Int) / 256 = 0 from rfl, ih, List.replicate_succ']; rfl
theorem nmNums_put (l : List Int) (h : ∀ x ∈ l, 0 ≤ x ∧ x ≤ 255) : putL (nmNums l) = l := by
  induction l with
  | nil => rfl
  | cons x l ih =>
    have hx := h x (by simp)
    have := ih (fun y hy => h y (by simp [hy]))
    simp only [putL, nmNums, List.map_cons, List.flatMap_cons] at this ⊢
    rw [this]
    show beB x 1 ++ l = x :: l
    simp only [beB, List.nil_append, List.singleton_append]
    congr 1; omega
theorem nmL_bytes (nm : ByteArray) : ∀ x ∈ nmL nm, 0 ≤ x ∧ x ≤ 255 := by
  intro x hx
  simp only [nmL, List.mem_map] at hx
  obtain ⟨c, _, rfl⟩ := hx
  have := c.toNat_lt
  omega
theorem lidNums_put (xs : List Int) : putL (lidNums xs) = lidL xs := by
  simp only [putL, lidNums, lidL, List.flatMap_map]; rfl
theorem iNums_put (nm : ByteArray) (z : Int) (xs : List Int) (h : nm.size ≤ 16) : putL (iNums nm z xs) = padL (nmL nm) 16 ++ beB z 2 ++ lidL xs := by
  rw [iNums, putL_append, putL_append, nmNums_put _ (nmL_bytes nm), lidNums_put]
  have e : putL [(16 - (nm.size : Int), 0), (2, z)] = List.replicate (16 - nm.size) 0 ++ beB z 2 := by
    simp only [putL, List.flatMap_cons, List.flatMap_nil, List.append_nil]
    rw [show (16 - (nm.size : Int)).toNat = 16 - nm.size from by omega, beB_zeroI]; rfl
  rw [e, padL, nmL_len, ← List.append_assoc]
theorem iNums_len (nm : ByteArray) (z : Int) (xs : List Int) : (iNums nm z xs).length = nm.size + 2 + xs.length := by
  simp [iNums, nmNums, lidNums, nmL_len]; omega
theorem iNums_ok {nm : ByteArray} {z : Int} {xs : List Int} (h : inoB nm z xs = true) : NOk (nm.size + 2 + xs.length) (iNums nm z xs) := by
  obtain ⟨⟨f1, f2⟩, ⟨f3, f4⟩, f5, f6, f7⟩ := ino_facts h
  have all : ∀ p ∈ iNums nm z xs, (0 ≤ p.1 ∧ p.1 ≤ 64) ∧ 0 ≤ p.2 ∧ p.2 ≤ 4611686018427387904 := by
    intro p hp
    simp only [iNums, nmNums, lidNums, List.mem_append, List.mem_map, List.mem_cons, List.not_mem_nil, or_false] at hp
    rcases hp with (⟨b, hb, rfl⟩ | rfl | rfl) | ⟨x, hx, rfl⟩
    · have := nmL_bytes nm b hb; simp only; omega
    · simp only; omega
    · simp only; omega
    · have := f7 x hx; simp only; omega
  intro i hi
  have hl : i < (iNums nm z xs).length := by rw [iNums_len]; exact hi
  have := all _ (List.getElem_mem hl)
  simpa [nW, nV, List.getElem?_eq_getElem hl] using this

theorem owns_neN {w : World} {B n h : Nat} {s : Value} {xs : List Value} {c : Array Value} {t : TypeId} {f : Nat × Nat} (ho : w.ownsRow B 100 2 s n xs) (hh : w.heap[h]? = some (.cells c t f)) (ht : t ≠ 100) : some h ≠ s.ownBlock := by
  rcases ho.2 with ⟨rfl, _⟩ | ⟨g, cap, cur, rfl, _, hg, _⟩
  · simp [Value.ownBlock]
  · simp only [Value.ownBlock, ne_eq, Option.some.injEq]
    intro e
    subst e
    rw [hh] at hg
    injection hg with hg
    injection hg with _ h2 _
    exact ht h2
theorem nm_at (nm : ByteArray) (k : Nat) (h : k < nm.size) : (nmL nm)[k]?.getD 0 = ((nm[k]).toNat : Int) := by
  simp only [nmL, List.getElem?_map]
  rw [List.getElem?_eq_getElem (by simpa using h)]
  simp; rfl
theorem nmNums_succ (l : List Int) (k : Nat) (h : k < l.length) : nCells (nmNums (l.take (k + 1))) = nCells (nmNums (l.take k)) ++ [.int .i64 1, .int .i64 (l[k]?.getD 0)] := by
  rw [List.take_succ_eq_append_getElem h]
  simp only [nmNums, List.map_append, List.map_cons, List.map_nil, nCells_append, List.getElem?_eq_getElem h, Option.getD_some]
  rfl
theorem lidNums_succ (P : List (Int × Int)) (xs : List Int) (k : Nat) (h : k < xs.length) : nCells (P ++ lidNums (xs.take (k + 1))) = nCells (P ++ lidNums (xs.take k)) ++ [.int .i64 2, .int .i64 (xs[k]?.getD 0)] := by
  rw [List.take_succ_eq_append_getElem h]
  simp only [lidNums, List.map_append, List.map_cons, List.map_nil, nCells_append, List.getElem?_eq_getElem h, Option.getD_some, List.append_assoc]
  rfl
theorem four_new {w : World} {x y u v : Value} {t : TypeId} : ∀ j r, [x, y, u, v][j]? = some r → (w.alloc (.cells #[x, y, u, v] t)).cell? ((⟨w.heap.size, 0, none⟩ : Addr).add j) = some r := by
  intro j r hj
  match j, hj with
  | 0, hj => simp at hj; subst hj; simp [Addr.add]
  | 1, hj => simp at hj; subst hj; simp [Addr.add]
  | 2, hj => simp at hj; subst hj; simp [Addr.add]
  | 3, hj => simp at hj; subst hj; simp [Addr.add]
theorem four_i64 (x y u v : Int) : ∀ r ∈ [Value.int .i64 x, Value.int .i64 y, Value.int .i64 u, Value.int .i64 v], r.oneCell' = true := by intro r hr; simp at hr; rcases hr with rfl | rfl | rfl | rfl <;> rfl

theorem four_blocks {w : World} (o1 o2 o3 o4 : Obj) : ((((w.alloc o1).alloc o2).alloc o3).alloc o4).drew.heap[w.heap.size]? = some o1 ∧ ((((w.alloc o1).alloc o2).alloc o3).alloc o4).drew.heap[w.heap.size + 1]? = some o2 ∧
    ((((w.alloc o1).alloc o2).alloc o3).alloc o4).drew.heap[w.heap.size + 2]? = some o3 ∧ ((((w.alloc o1).alloc o2).alloc o3).alloc o4).drew.heap[w.heap.size + 1 + 1 + 1]? = some o4 ∧ Below w.heap.size w ((((w.alloc o1).alloc o2).alloc o3).alloc o4).drew := by
  have s1 : (w.alloc o1).heap.size = w.heap.size + 1 := by simp
  have s2 : ((w.alloc o1).alloc o2).heap.size = w.heap.size + 2 := by simp
  have s3 : (((w.alloc o1).alloc o2).alloc o3).heap.size = w.heap.size + 3 := by simp
  refine ⟨?_, ?_, ?_, ?_, ((((Below.refl _ _).alloc (Nat.le_refl _) _).alloc (by simp) _).alloc (by simp; omega) _).alloc (by simp; omega) _ |>.drew⟩
  · show ((((w.alloc o1).alloc o2).alloc o3).alloc o4).heap[w.heap.size]? = _
    rw [heap_alloc_oldI _ _ (by rw [s3]; omega), heap_alloc_oldI _ _ (by rw [s2]; omega), heap_alloc_oldI _ _ (by rw [s1]; omega)]; exact heap_alloc_new w o1
  · show ((((w.alloc o1).alloc o2).alloc o3).alloc o4).heap[w.heap.size + 1]? = _
    rw [heap_alloc_oldI _ _ (by rw [s3]; omega), heap_alloc_oldI _ _ (by rw [s2]; omega), ← s1]; exact heap_alloc_new _ o2
  · show ((((w.alloc o1).alloc o2).alloc o3).alloc o4).heap[w.heap.size + 2]? = _
    rw [heap_alloc_oldI _ _ (by rw [s3]; omega), ← s2]; exact heap_alloc_new _ o3
  · show ((((w.alloc o1).alloc o2).alloc o3).alloc o4).heap[w.heap.size + 1 + 1 + 1]? = _
    rw [show w.heap.size + 1 + 1 + 1 = (((w.alloc o1).alloc o2).alloc o3).heap.size from by rw [s3]]; exact heap_alloc_new _ o4
theorem empty_rows {w : World} {g : Nat} {B : Nat} (hg : w.heap[g]? = some (.cells #[] 100 (0, 0))) (hB : B ≤ g) : w.ownsRow B 100 2 (.slice (some ⟨g, 0, none⟩) 0 0) 0 [] :=
  ⟨rfl, .inr ⟨g, 0, #[], rfl, hB, hg, Nat.le_refl _, Nat.zero_le _, rfl, rfl⟩⟩

set_option maxHeartbeats 4000000 in
set_option maxRecDepth 100000 in
theorem inodeBlock_any (nm : ByteArray) (z : Int) (a : Option Addr) (n ca : Nat) (xs : List Int) (w : World) (ha : IRow .i64 w a n xs) (h : inoB nm z xs = true) :
    Calls Tryz.prog 82 #[.agg #[.string nm, .int .i64 z, .slice a n ca]] w fun e w' => e = .returned (.agg (u8s (inoL nm z xs)).toArray) ∧ Below w.heap.size w w' := by
  obtain ⟨i2, ki, kz0, kz1, kz2⟩ := info_parts info100
  obtain ⟨⟨f1, f2⟩, ⟨f3, f4⟩, f5, f6, f7⟩ := ino_facts h
  have HX : Hid (xs.length = n) := ha.1
  have HA : Hid (IRow .i64 w a n xs) := ha
  have HOK : Hid (NOk (nm.size + 2 + n) (iNums nm z xs)) := by show NOk _ _; rw [← HX.out]; exact iNums_ok h
  have HLEN : Hid ((putL (iNums nm z xs)).length ≤ 64) := by
    show _ ≤ _
    rw [iNums_put nm z xs f2, List.length_append, List.length_append, padL_len _ _ (by rw [nmL_len]; exact f2), beB_len, lidL_len]; omega
  have HP : Hid (u8s (padL (putL (iNums nm z xs)) 64) = u8s (inoL nm z xs)) := by show _ = _; rw [iNums_put nm z xs f2]; rfl
  have hn22 : n ≤ 22 := by have := ha.1; omega
  have hX : (u8s (inoL nm z xs)).toArray.size = 64 := by
    rw [List.size_toArray, u8s_len, inoL, padL_len]
    rw [List.length_append, List.length_append, padL_len _ _ (by rw [nmL_len]; exact f2), beB_len, lidL_len]; omega
  have h1X : (u8s (inoL nm z xs)).toArray.all (·.oneCell') = true := by
    rw [Array.all_eq_true_iff_forall_mem]
    intro x hx
    exact many_u8 _ x (by simpa using hx)
  have hcv := fun w s => run_bytes_of_string (P := Tryz.prog) w 9 22 5 s Tryz.underlying9 Tryz.underlying22 Tryz.underlying5
  clear f5 f6 f7 ha h
  go_enter Tryz.func82, Tryz.ntmps82
  go_wp2
  go_loopw [3, 13] (fun s i wr => ∃ k : Nat, k ≤ nm.size ∧ i = .int .i64 k ∧ wr.ownsRow (w.heap.size + 2) 100 2 s k (nCells (nmNums ((nmL nm).take k))) ∧ Below w.heap.size w wr ∧ wr.heap[w.heap.size]? = some (.cells #[.string nm, .int .i64 z, .slice a n ca] 117 (0, 0)) ∧ wr.heap[w.heap.size + 1]? = some (.cells z64.toArray 74 (0, 0)) ∧ ∃ cb mb, wr.heap[w.heap.size + 1 + 1 + 1]? = some (.cells (bytesRow nm cb) 5 mb)) (fun _ i _ => nm.size - (intOf i).toNat)
  case atStart =>
    obtain ⟨b1, b2, b3, b4, b5⟩ := @four_blocks w (.cells #[.string nm, .int .i64 z, .slice a n ca] 117) (.cells #[.int .u8 0, .int .u8 0, .int .u8 0, .int .u8 0, .int .u8 0, .int .u8 0, .int .u8 0, .int .u8 0, .int .u8 0, .int .u8 0, .int .u8 0, .int .u8 0, .int .u8 0, .int .u8 0, .int .u8 0, .int .u8 0, .int .u8 0, .int .u8 0, .int .u8 0, .int .u8 0, .int .u8 0, .int .u8 0, .int .u8 0, .int .u8 0, .int .u8 0, .int .u8 0, .int .u8 0, .int .u8 0, .int .u8 0, .int .u8 0, .int .u8 0, .int .u8 0, .int .u8 0, .int .u8 0, .int .u8 0, .int .u8 0, .int .u8 0, .int .u8 0, .int .u8 0, .int .u8 0, .int .u8 0, .int .u8 0, .int .u8 0, .int .u8 0, .int .u8 0, .int .u8 0, .int .u8 0, .int .u8 0, .int .u8 0, .int .u8 0, .int .u8 0, .int .u8 0, .int .u8 0, .int .u8 0, .int .u8 0, .int .u8 0, .int .u8 0, .int .u8 0, .int .u8 0, .int .u8 0, .int .u8 0, .int .u8 0, .int .u8 0, .int .u8 0] 74) (.cells #[] 100) (.cells (bytesRow nm _) 5 (_, _))
    exact ⟨0, Nat.zero_le _, rfl, empty_rows b3 (Nat.le_refl _), b5, b1, by rw [z64_lit]; exact b2, _, _, b4⟩
  case round =>
    obtain ⟨k, hk, rfl, own1, hB1, k1, k2, cb, mb, k3⟩ := hrel
    have s1 := hB1.size
    have l1 := (Array.getElem?_eq_some_iff.1 k1).1
    have l2 := (Array.getElem?_eq_some_iff.1 k2).1
    have l3 := (Array.getElem?_eq_some_iff.1 k3).1
    by_cases hlt : k < nm.size
    · have c1 : wr.cell? ⟨w.heap.size + 1 + 1 + 1, k, none⟩ = some (.int .u8 ((nm[k]).toNat : Int)) := by
        rw [cell_of_row wr _ k _ _ _ k3, bytesRow_at nm cb k hlt]; rfl
      have HS : Hid (nCells (nmNums ((nmL nm).take (k + 1))) = nCells (nmNums ((nmL nm).take k)) ++ [.int .i64 1, .int .i64 ((nm[k]).toNat : Int)]) := by
        show _ = _
        rw [nmNums_succ _ k (by rw [nmL_len]; exact hlt), nm_at nm k hlt]
      have y1 : (0 : Int) ≤ ((nm[k]).toNat : Int) := by omega
      have y2 : ((nm[k]).toNat : Int) ≤ 255 := by have := (nm[k]).toNat_lt; omega
      generalize ((nm[k]).toNat : Int) = x at *
      go_wp2_with (at_builtin; refine wpList_append_own _ rfl _ _ 133 rfl (w.heap.size + 2) 100 i2 (.agg #[.int .i64 0, .int .i64 0]) 2 16 Tryz.underlying133 ki kz0 kz1 kz2 rfl (by decide) _ _ _ rfl (own1.alloc _) ⟨wr.heap.size, 0, none⟩ 1 1 [.int .i64 1, .int .i64 x] rfl rfl two_newE (two_i64 _ _) (by unfold maxLen; omega) (by omega) (by simp; omega) ?_)
      intro s' w4 own4 grow4 _
      have hB4 : Below w.heap.size w w4 := (hB1.alloc s1 _).grown grow4 (by simp; omega) (fun k hk => by have := (own1.lt k hk).1; omega)
      have g1 := ((grow4.block _ (by simp; omega) (owns_neN own1 k1 (by decide))).trans (heap_alloc_oldI wr _ l1)).trans k1
      have g2 := ((grow4.block _ (by simp; omega) (owns_neN own1 k2 (by decide))).trans (heap_alloc_oldI wr _ l2)).trans k2
      have g3 := ((grow4.block _ (by simp; omega) (owns_neN own1 k3 (by decide))).trans (heap_alloc_oldI wr _ l3)).trans k3
      have own5 : w4.ownsRow (w.heap.size + 2) 100 2 s' (k + 1) (nCells (nmNums ((nmL nm).take (k + 1)))) := by rw [HS.out]; exact own4
      clear own4 own1 grow4 HS c1 k1 k2 k3 hB1 hcv
      go_wp2
      go_roundw
      case rel => exact ⟨k + 1, by omega, by go_num, own5, hB4, g1, g2, cb, mb, g3⟩
      case measure => simp [intOf]; omega
    · have hkn : k = nm.size := by omega
      subst hkn
      rw [List.take_of_length_le (by rw [nmL_len]; exact Nat.le_refl _)] at own1
      obtain ⟨⟨q1, q2, q3⟩, _, _, _⟩ := three_cellsI k1
      have t16 : 0 ≤ 16 - (nm.size : Int) := by omega
      clear k3 l3 hcv
      go_wp2_with (at_builtin; refine wpList_append_own _ rfl _ _ 133 rfl (w.heap.size + 2) 100 i2 (.agg #[.int .i64 0, .int .i64 0]) 2 16 Tryz.underlying133 ki kz0 kz1 kz2 rfl (by decide) _ _ _ rfl (own1.alloc _) ⟨wr.heap.size, 0, none⟩ 2 2 [.int .i64 (16 - (nm.size : Int)), .int .i64 0, .int .i64 2, .int .i64 z] rfl rfl four_new (four_i64 _ _ _ _) (by unfold maxLen; omega) (by omega) (by simp; omega) ?_)
      intro s' w4 own4 grow4 _
      have hB4 : Below w.heap.size w w4 := (hB1.alloc s1 _).grown grow4 (by simp; omega) (fun k hk => by have := (own1.lt k hk).1; omega)
      have g1 := ((grow4.block _ (by simp; omega) (owns_neN own1 k1 (by decide))).trans (heap_alloc_oldI wr _ l1)).trans k1
      have g2 := ((grow4.block _ (by simp; omega) (owns_neN own1 k2 (by decide))).trans (heap_alloc_oldI wr _ l2)).trans k2
      have own5 : w4.ownsRow (w.heap.size + 2) 100 2 s' (nm.size + 2 + 0) (nCells ((nmNums (nmL nm) ++ [(16 - (nm.size : Int), 0), (2, z)]) ++ lidNums (xs.take 0))) := by
        rw [List.take_zero, show lidNums [] = [] from rfl, List.append_nil, nCells_append]; exact own4
      obtain ⟨⟨r1, r2, r3⟩, _, _, _⟩ := three_cellsI g1
      generalize hPf : nmNums (nmL nm) ++ [(16 - (nm.size : Int), 0), (2, z)] = Pfx at *
      have HPf : Hid (iNums nm z xs = Pfx ++ lidNums xs) := by show _ = _; rw [← hPf]; rfl
      clear hPf
      clear own4 own1 grow4 k1 k2 hB1 q1 q2 q3 l1 l2 s1
      go_wp2
      go_loopw [3, 38] (fun s i wr => ∃ k : Nat, k ≤ n ∧ i = .int .i64 k ∧ wr.ownsRow (w.heap.size + 2) 100 2 s (nm.size + 2 + k) (nCells (Pfx ++ lidNums (xs.take k))) ∧ Below w.heap.size w wr ∧ wr.heap[w.heap.size + 1]? = some (.cells z64.toArray 74 (0, 0))) (fun _ i _ => n - (intOf i).toNat)
      case atStart => exact ⟨0, Nat.zero_le _, rfl, own5, hB4, g2⟩
      case round =>
        obtain ⟨k, hk, rfl, own1, hB1, k2⟩ := hrel
        clear r1 r2 r3 g1 g2 own5 hB4
        have s1 := hB1.size
        have l2 := (Array.getElem?_eq_some_iff.1 k2).1
        by_cases hlt : k < n
        · rcases HA.out.2 with h0 | ⟨g, off, rfl, hc⟩
          · omega
          have c1 := hc k hlt
          rw [← hB1.cell (World.block_lt_of_cell? w _ c1)] at c1
          have HS : Hid (nCells (Pfx ++ lidNums (xs.take (k + 1))) = nCells (Pfx ++ lidNums (xs.take k)) ++ [.int .i64 2, .int .i64 (xs[k]?.getD 0)]) := by
            show _ = _
            rw [lidNums_succ Pfx xs k (by rw [HX.out]; exact hlt)]
          generalize xs[k]?.getD 0 = x at *
          clear hc
          go_wp2_with (at_builtin; refine wpList_append_own _ rfl _ _ 133 rfl (w.heap.size + 2) 100 i2 (.agg #[.int .i64 0, .int .i64 0]) 2 16 Tryz.underlying133 ki kz0 kz1 kz2 rfl (by decide) _ _ _ rfl (own1.alloc _) ⟨wr.heap.size, 0, none⟩ 1 1 [.int .i64 2, .int .i64 x] rfl rfl two_newE (two_i64 _ _) (by unfold maxLen; omega) (by omega) (by simp; omega) ?_)
          intro s' w4 own4 grow4 _
          have hB4 : Below w.heap.size w w4 := (hB1.alloc s1 _).grown grow4 (by simp; omega) (fun k hk => by have := (own1.lt k hk).1; omega)
          have g2 := ((grow4.block _ (by simp; omega) (owns_neN own1 k2 (by decide))).trans (heap_alloc_oldI wr _ l2)).trans k2
          have own5 : w4.ownsRow (w.heap.size + 2) 100 2 s' (nm.size + 2 + (k + 1)) (nCells (Pfx ++ lidNums (xs.take (k + 1)))) := by rw [HS.out]; exact own4
          clear own4 own1 grow4 HS c1 k2 hB1
          go_wp2
          go_roundw
          case rel => exact ⟨k + 1, by omega, by go_num, own5, hB4, g2⟩
          case measure => simp [intOf]; omega
        · have hkn : k = n := by omega
          subst hkn
          rw [List.take_of_length_le (by rw [HX.out]; exact Nat.le_refl _), ← HPf.out] at own1
          obtain ⟨aa, cc, hs, hnr⟩ := owns_nread own1
          clear own1
          rw [hs]
          clear hs
          go_wp2_with fail
          refine (putBlock_any _ _ _ (iNums nm z xs) _ hnr HOK.out (by omega) HLEN.out).mono ?_
          rintro e w5 ⟨rfl, hb5⟩
          rw [HP.out]
          have k5 := (hb5.block (w.heap.size + 1) l2).trans k2
          have hb6 : Below w.heap.size w w5 := hB1.trans (hb5.mono s1)
          generalize hXe : (u8s (inoL nm z xs)).toArray = X at *
          have HXe : Hid ((u8s (inoL nm z xs)).toArray = X) := hXe
          clear hXe hb5 hB1 k2 hnr
          go_wp2_with (refine wpList_store_row rfl 74 _ _ rfl (w.heap.size + 1) X rfl rfl 74 _ k5 (by rw [hX]; exact info74b) (by rw [hX]; rfl) h1X ?_)
          refine bodyPost_ret (v := .agg X) (results_cell_row Tryz.results82 _ _ (w.heap.size + 1) 74 X (0, 0) _ rfl (setRow_heap w5 (w.heap.size + 1) _ X 74 _ k5) Tryz.underlying74 rfl (by rw [hX]; exact info74b)) rfl ?_
          exact ⟨by rw [HXe.out], below_setRow hb6 (by omega) X⟩
end Go.Proofs.YtonpdbajoidigaaGreatDoor

/-
  FnSpace: what it leans on.
-/
namespace Go.Proofs.YtonpdbajoidigaaGreatDoor
open Go.RowKit
set_option linter.unusedSimpArgs false
set_option linter.unusedVariables false
end Go.Proofs.YtonpdbajoidigaaGreatDoor

/-
  FnSpace: the cached disk's barrier, with the blocks that it writes.
-/
namespace Go.Proofs.YtonpdbajoidigaaGreatDoor
open Go.RowKit
set_option linter.unusedSimpArgs false
set_option linter.unusedVariables false

def cdG (C M : Nat) (dv : Value) (g : Nat) : Prop := g = C ∨ g = M ∨ dv.ownBlock = some g
set_option maxRecDepth 100000 in
set_option maxHeartbeats 1600000 in
theorem barrier_kept (B C nb : Nat) (xs : List Int) (ws : List (Int × List Int)) (da : Option Addr) (dc : Nat) (wa : Option Addr) (wc M : Nat) (D : DataW Unit) (w : World) (h : CD B w C nb xs ws (.slice da nb dc) (.slice wa ws.length wc) M D) (hm : ws.length < 4096) (hnb : 1 ≤ nb ∧ nb ≤ 4096) (hok : ∀ x ∈ ws, 0 ≤ x.1 ∧ x.1 < (nb : Int)) (hB : B ≤ w.heap.size) :
    Calls Tryz.prog 150 #[.pointer (some ⟨C, 0, none⟩)] w fun e w' => (∃ v, e = .returned v) ∧ CD B w' C nb (stlAll xs ws) [] (.slice da nb dc) (.slice none 0 0) M (.map []) ∧ Kept (cdG C M (.slice da nb dc)) w w' := by
  obtain ⟨k1, k2, k3, kf⟩ := cells3 h.cell
  obtain ⟨gD, rfl, hcapD, _⟩ := owns_range h.dur 0 0 (by omega)
  have HOK : Hid (∀ x ∈ ws, 0 ≤ x.1 ∧ x.1 < (nb : Int)) := hok
  have H0 : Hid (CD B w C nb (stl xs ((ws.take 0).map fun x => (x, 64))) ws (.slice (some ⟨gD, 0, none⟩) nb dc) (.slice wa ws.length wc) M D) := by show CD _ _ _ _ _ _ _ _ _ _; simpa [stl] using h
  have HB0 : Hid (Kept (cdG C M (.slice (some ⟨gD, 0, none⟩) nb dc)) w w) := Kept.refl _ _
  have HGD : Hid (B ≤ gD) := (h.dur.lt gD rfl).1
  have HCM : Hid (B ≤ C ∧ B ≤ M) := ⟨h.hC, h.hM⟩
  clear h hok
  obtain ⟨i65, hi65, hz65, _, _⟩ := info_parts info93
  go_enter Tryz.func150, Tryz.ntmps150
  go_wp2
  go_loopw [9] (fun i wr => ∃ k : Nat, k ≤ ws.length ∧ i = .int .i64 k ∧ Hid (CD B wr C nb (stl xs ((ws.take k).map fun x => (x, 64))) ws (.slice (some ⟨gD, 0, none⟩) nb dc) (.slice wa ws.length wc) M D) ∧ Hid (Kept (cdG C M (.slice (some ⟨gD, 0, none⟩) nb dc)) w wr)) (fun i _ => ws.length - (intOf i).toNat)
  case atStart => exact ⟨0, Nat.zero_le _, rfl, H0, HB0⟩
  case round =>
    obtain ⟨k, hk, rfl, hcd, hbl⟩ := hrel
    clear H0 HB0
    obtain ⟨c1, c2, c3, cf⟩ := cells3 hcd.out.cell
    have sC := hcd.out.ltC
    by_cases hlt : k < ws.length
    · obtain ⟨x, hx⟩ : ∃ x, ws[k]? = some x := ⟨_, List.getElem?_eq_getElem hlt⟩
      have hxm := List.mem_of_getElem? hx
      have hX : x.2.length = 64 := (hcd.out.lens x hxm).1
      obtain ⟨hx0, hx1⟩ := HOK.out x hxm
      obtain ⟨gW, e1, _, rng0⟩ := owns_range hcd.out.wr (k * 65) 65 (by omega)
      rw [cws_at (fun y hy => (hcd.out.lens y hy).1) hx] at rng0
      subst e1
      have hXs : (cwL x).toArray.size = 65 := by rw [List.size_toArray, cwL_len _ hX]
      have h1X : (cwL x).toArray.all (·.oneCell') = true := all_oneCell_toArray (cwL_one _)
      have gWl : gW < wr.heap.size := World.block_lt_of_cell? wr _ (rng0 0 (.int .i64 x.1) (by simp [cwL]))
      obtain ⟨W0, hW0⟩ : ∃ W0, wr.alloc (Obj.cells z65.toArray 93) = W0 := ⟨_, rfl⟩
      have hb0 : Below wr.heap.size wr W0 := by rw [← hW0]; exact (Below.refl _ wr).alloc (Nat.le_refl _) _
      have g3 : W0.heap[wr.heap.size]? = some (.cells z65.toArray 93 (0, 0)) := by rw [← hW0]; exact heap_alloc_new wr _
      obtain ⟨W1, hW1⟩ : ∃ W1, W0.setRow wr.heap.size (cwL x).toArray = W1 := ⟨_, rfl⟩
      have g4 : W1.heap[wr.heap.size]? = some (.cells (cwL x).toArray 93 (0, 0)) := by rw [← hW1]; exact setRow_heap W0 wr.heap.size _ _ 93 _ g3
      have hb1 : Below wr.heap.size wr W1 := by rw [← hW1]; exact below_setRow hb0 (Nat.le_refl _) _
      have cd1 := hcd.out.below (hb1.drew)
      have hrow : ∀ j v, (cwL x)[j]? = some v → W1.drew.cell? ⟨wr.heap.size, j, none⟩ = some v := fun j v hv => by
        show W1.cell? _ = _
        rw [cell_of_row W1 wr.heap.size j _ _ _ g4]; simpa using hv
      have SS0 : W1.drew.cell? ⟨C, 0, none⟩ = some (.slice (some ⟨gD, 0, none⟩) nb dc) ∧ W1.drew.cell? ⟨wr.heap.size, 0, none⟩ = some (.int .i64 x.1) ∧ W1.drew.rangeAt wr.heap.size 1 (u8s x.2) := ⟨(cells3 cd1.cell).1, hrow 0 _ (by simp [cwL]), fun j v hv => by
        rw [Nat.add_comm]
        exact hrow (j + 1) v (by simpa [cwL] using hv)⟩
      obtain ⟨cd2, kk2⟩ := cd1.store x 64 (by omega) (Nat.le_refl _)
      have hxt : x.2.take 64 = x.2 := List.take_of_length_le (by omega)
      have eS : setL (stl xs ((ws.take k).map fun x => (x, 64))) x 64 = stl xs ((ws.take (k + 1)).map fun x => (x, 64)) := by
        have hxe : ws[k] = x := by rw [List.getElem?_eq_getElem hlt] at hx; injection hx
        rw [List.take_succ_eq_append_getElem hlt, hxe, List.map_append, List.map_cons, List.map_nil, stl_snoc]
      rw [eS, hxt] at cd2
      rw [hxt] at kk2
      have wrNe : gD ≠ wr.heap.size := by have := (hcd.out.dvNe (g := gD) rfl).2.2.2; omega
      have CNe : gD ≠ C := (hcd.out.dvNe (g := gD) rfl).1
      have SS1 : (W1.drew.setCells gD (x.1.toNat * 64) (u8s x.2)).cell? ⟨C, 0, none⟩ = some (.slice (some ⟨gD, 0, none⟩) nb dc) ∧ (W1.drew.setCells gD (x.1.toNat * 64) (u8s x.2)).cell? ⟨wr.heap.size, 0, none⟩ = some (.int .i64 x.1) ∧ (W1.drew.setCells gD (x.1.toNat * 64) (u8s x.2)).rangeAt wr.heap.size 1 (u8s x.2) := by
        have szW : wr.heap.size < W1.drew.heap.size := (Array.getElem?_eq_some_iff.1 g4).1
        refine ⟨(cells3 cd2.cell).1, (World.cell?_of_block (a := ⟨wr.heap.size, 0, none⟩) (kk2.block _ szW (fun e => wrNe e.symm))).trans SS0.2.1, range_block SS0.2.2 (kk2.block _ szW (fun e => wrNe e.symm))⟩
      have thr : W1.drew.there gD (x.1.toNat * 64) (u8s x.2).toArray.size := by
        obtain ⟨g', e', _, rngD⟩ := owns_range cd1.dur (x.1.toNat * 64) 64 (by omega)
        injection e' with e'
        injection e' with e'
        subst e'
        intro j hj
        rw [List.size_toArray, u8s_len, hX] at hj
        have hlv : x.1.toNat * 64 + j < (u8s (stl xs ((ws.take k).map fun x => (x, 64)))).length := by rw [u8s_len, cd1.len]; omega
        refine ⟨by rw [rngD j _ (by rw [List.getElem?_take, if_pos hj, List.getElem?_drop]; exact List.getElem?_eq_getElem hlv)]; rfl, ?_⟩
        obtain ⟨cur, hc⟩ := owns_tag cd1.dur (g := gD) rfl
        simp [World.frozen?, hc]
      have HCD2 : Hid (CD B (W1.drew.setCells gD (x.1.toNat * 64) (u8s x.2)) C nb (stl xs ((ws.take (k + 1)).map fun x => (x, 64))) ws (.slice (some ⟨gD, 0, none⟩) nb dc) (.slice (some ⟨gW, 0, none⟩) ws.length wc) M D) := cd2
      have HB2 : Hid (Kept (cdG C M (.slice (some ⟨gD, 0, none⟩) nb dc)) w (W1.drew.setCells gD (x.1.toNat * 64) (u8s x.2))) := (hbl.out.trans (Kept.of_below hb1.drew _)).trans (kk2.mono fun g hg => by subst hg; exact .inr (.inr rfl))
      have rng : wr.rangeAt gW (k * 65) (cwL x) := rng0
      have hzv : ∀ W, (zeroValue 93).run Tryz.prog W = .ok (.agg z65.toArray) W := fun W => by simp [zeroValue, typeInfo, hi65, hz65]
      have hXs2 : (u8s x.2).toArray.size = 64 := by rw [List.size_toArray, u8s_len, hX]
      have h1X2 : (u8s x.2).toArray.all (·.oneCell') = true := all_oneCell_toArray (many_u8 _)
      have HTH : Hid (W1.drew.there gD (x.1.toNat * 64) (u8s x.2).toArray.size) := thr
      have HS1 := Hid.out SS1
      have HSS1 : Hid (_ ∧ _ ∧ _) := SS1
      clear cd1 cd2 kk2 hb1 g4 rng0 hrow eS hxt thr SS1 HS1
      go_wp2_with (first
        | (refine wpList_load_mid rfl 93 _ rfl gW (k * 65) rfl (cwL x) _ rng Tryz.underlying93 rfl (by rw [cwL_len _ hX]; exact infoCW) ?_)
        | (refine wpList_store_row rfl 93 _ _ rfl wr.heap.size (cwL x).toArray rfl rfl 93 _ g3 (by rw [hXs]; exact infoCW) (by rw [hXs]; rfl) h1X ?_))
      try rw [hW1]
      clear hW0 hW1 hb0 g3 rng
      refine wp_region_held_drew (S := fun V => V.cell? ⟨C, 0, none⟩ = some (.slice (some ⟨gD, 0, none⟩) nb dc) ∧ V.cell? ⟨wr.heap.size, 0, none⟩ = some (.int .i64 x.1) ∧ V.rangeAt wr.heap.size 1 (u8s x.2)) (by kernel_rfl) SS0 (fun hS => ?_)
      refine wpAnyH_take (i := 0) (v := .pointer (some ⟨C, 0, none⟩)) rfl (by kernel_rfl) (by kernel_rfl) (by kernel_rfl) (fun _ _ _ h => h) (Or.inl ⟨rfl, fun V hV => by go_simp⟩) hS ?_
      refine wpAnyH_take (i := 1) (v := .pointer (some ⟨C, 0, none⟩)) rfl (by kernel_rfl) (by kernel_rfl) (by kernel_rfl) (fun _ _ _ h => h) (Or.inl ⟨rfl, fun V hV => by go_simp⟩) hS ?_
      refine wpAnyH_take (i := 2) (v := .pointer (some ⟨C, 0, none⟩)) rfl (by kernel_rfl) (by kernel_rfl) (by kernel_rfl) (fun _ _ _ h => h) (Or.inl ⟨rfl, fun V hV => by go_simp⟩) hS ?_
      refine wpAnyH_take (i := 3) (v := .slice (some ⟨gD, 0, none⟩) nb dc) rfl (by kernel_rfl) (by kernel_rfl) (by kernel_rfl) (fun _ _ _ h => h) (Or.inl ⟨rfl, fun V hV => by obtain ⟨h1, h2, h3⟩ := hV; clear h3; go_simp⟩) hS ?_
      refine wpAnyH_take (i := 4) (v := .pointer (some ⟨wr.heap.size, 0, none⟩)) rfl (by kernel_rfl) (by kernel_rfl) (by kernel_rfl) (fun _ _ _ h => h) (Or.inl ⟨rfl, fun V hV => by go_simp⟩) hS ?_
      refine wpAnyH_take (i := 5) (v := .int .i64 x.1) rfl (by kernel_rfl) (by kernel_rfl) (by kernel_rfl) (fun _ _ _ h => h) (Or.inl ⟨rfl, fun V hV => by obtain ⟨h1, h2, h3⟩ := hV; clear h3; go_simp⟩) hS ?_
      refine wpAnyH_take (i := 6) (v := .pointer (some ⟨wr.heap.size, 1, none⟩)) rfl (by kernel_rfl) (by kernel_rfl) (by kernel_rfl) (fun _ _ _ h => h) (Or.inl ⟨rfl, fun V hV => by go_simp⟩) hS ?_
      refine wpAnyH_take (i := 7) (v := .agg (u8s x.2).toArray) rfl (by kernel_rfl) (by kernel_rfl) (by kernel_rfl) (fun _ _ _ h => h) (yieldsIf_load_mid rfl 74 (.tmp 19) rfl wr.heap.size 1 rfl (u8s x.2) _ (fun V hV => hV.2.2) Tryz.underlying74 rfl (by rw [u8s_len, hX]; exact infoBB)) hS ?_
      refine wpAnyH_take (i := 8) (v := .pointer (some ⟨gD, x.1.toNat * 64, none⟩)) rfl (by kernel_rfl) (by kernel_rfl) (by kernel_rfl) (fun _ _ _ h => h) (Or.inl ⟨rfl, fun V hV => by have q1 := hx0; have q2 := hx1; go_simp⟩) hS ?_
      refine wpAnyH_ready (rs := [9]) (by kernel_rfl) (by simp) (AllReadyH.cons rfl (fun K hK => ?_) AllReadyH.nil)
      have hst : (storeCells ⟨gD, x.1.toNat * 64, none⟩ (u8s x.2)).run Tryz.prog W1.drew = .ok () (W1.drew.setCells gD (x.1.toNat * 64) (u8s x.2)) := by
        have hth := HTH.out
        rw [List.size_toArray] at hth
        have := run_storeCells_cells (P := Tryz.prog) gD (x.1.toNat * 64) (u8s x.2) 0 W1.drew (fun j hj => by simpa using (hth j hj).1) (fun j hj => by simpa using (hth j hj).2) (many_u8 _)
        simpa only [Nat.add_zero] using this
      have hul : (u8s x.2).length = 64 := by rw [u8s_len, hX]
      clear HTH hXs2 h1X2 SS0
      go_simp
      refine hK.out _ _ HSS1.out (fun _ => ?_)
      refine wpAnyH_done (by kernel_rfl) ?_ _
      clear hK K hS hst
      go_wp2
      go_roundw
      case rel => exact ⟨k + 1, by omega, by go_num, HCD2, HB2⟩
      case measure => simp [intOf]; omega
    · obtain rfl : k = ws.length := by omega
      have hcd9 := hcd.out
      rw [List.take_of_length_le (Nat.le_refl _)] at hcd9
      go_wp2_with fail
      refine (forget_any _ _ _ _ _ _ _ _ _ _ hcd9).mono ?_
      rintro e w9 ⟨⟨v, rfl⟩, hc9, hk9⟩
      have HC9 : Hid (CD B w9 C nb (stlAll xs ws) [] (.slice (some ⟨gD, 0, none⟩) nb dc) (.slice none 0 0) M (.map [])) := hc9
      have HB9 : Hid (Kept (cdG C M (.slice (some ⟨gD, 0, none⟩) nb dc)) w w9) := hbl.out.trans (hk9.mono fun g hg => by
        rcases hg with rfl | rfl
        · exact .inl rfl
        · exact .inr (.inl rfl))
      clear hc9 hk9 hcd hcd9
      go_wp2
      go_end0
      exact ⟨⟨_, rfl⟩, HC9.out, HB9.out⟩
end Go.Proofs.YtonpdbajoidigaaGreatDoor
