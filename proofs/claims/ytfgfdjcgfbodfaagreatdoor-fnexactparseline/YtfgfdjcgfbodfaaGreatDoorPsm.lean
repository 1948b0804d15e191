/-
  Letters of a fill; numbers between bounds.
-/
import Derived.Test.YtfgfdjcgfbodfaaGreatDoorPfi
namespace Go.Proofs.YtfgfdjcgfbodfaaGreatDoor
open Go.RowKit
set_option linter.unusedSimpArgs false
set_option linter.unusedVariables false

theorem between_any (v lo hi : Int) (w : World) :
    Calls Tryz.prog 15 #[.int .i64 v, .int .i64 lo, .int .i64 hi] w fun e w' => e = .returned (.bool (decide (lo ≤ v) && decide (v ≤ hi))) ∧ w' = w := by
  obtain ⟨q, hq⟩ : ∃ q, (decide (lo ≤ v) && decide (v ≤ hi)) = q := ⟨_, rfl⟩
  rw [hq]
  have HQ := Lib.hid hq
  clear hq
  by_cases h1 : lo ≤ v
  · by_cases h2 : v ≤ hi
    · have HT : Hid (q = true) := by show _ = _; rw [← HQ.out, decide_eq_true h1, decide_eq_true h2]; rfl
      clear HQ
      go_enter Tryz.func15, Tryz.ntmps15
      go_wp2
      go_ret
      exact ⟨by rw [HT.out]; rfl, rfl⟩
    · have HT : Hid (q = false) := by show _ = _; rw [← HQ.out, decide_eq_true h1, decide_eq_false h2]; rfl
      clear HQ
      go_enter Tryz.func15, Tryz.ntmps15
      go_wp2
      go_ret
      exact ⟨by rw [HT.out]; rfl, rfl⟩
  · have HT : Hid (q = false) := by show _ = _; rw [← HQ.out, decide_eq_false h1]; rfl
    clear HQ
    go_enter Tryz.func15, Tryz.ntmps15
    go_wp2
    go_ret
    exact ⟨by rw [HT.out]; rfl, rfl⟩
theorem make_any (ck : Int) (name data : ByteArray) (size : Int) (w : World) :
    Calls Tryz.prog 23 #[.agg #[.int .i64 ck, .string name, .string data, .int .i64 size]] w fun e w' => e = .returned (.agg #[.int .i64 1, .int .i64 ck, .string name, .string data, .int .i64 size, .slice none 0 0]) ∧ Below w.heap.size w w' := by
  go_enter Tryz.func23, Tryz.ntmps23
  go_wp2
  refine bodyPost_ret (v := .agg #[.int .i64 1, .int .i64 ck, .string name, .string data, .int .i64 size, .slice none 0 0]) (by simp [results, Tryz.results23, go_sem]) rfl ?_
  refine ⟨rfl, ?_⟩
  repeat' (first | with_reducible refine Below.setCell ?_ ?_ _ | with_reducible refine Below.alloc ?_ ?_ _ | with_reducible refine Below.drew ?_ | with_reducible assumption | with_reducible exact Below.refl _ _ | (simp; done) | (simp; omega) | omega)
theorem writeLine_any (name data : ByteArray) (w : World) :
    Calls Tryz.prog 39 #[.string name, .string data] w fun e w' => e = .returned (.agg #[.int .i64 1, .int .i64 1, .string name, .string data, .int .i64 0, .slice none 0 0]) ∧ Below w.heap.size w w' := by
  go_enter Tryz.func39, Tryz.ntmps39
  go_wp2
  refine bodyPost_ret (v := .agg #[.int .i64 1, .int .i64 1, .string name, .string data, .int .i64 0, .slice none 0 0]) (by simp [results, Tryz.results39, go_sem]) rfl ?_
  refine ⟨rfl, ?_⟩
  repeat' (first | with_reducible refine Below.setCell ?_ ?_ _ | with_reducible refine Below.alloc ?_ ?_ _ | with_reducible refine Below.drew ?_ | with_reducible assumption | with_reducible exact Below.refl _ _ | (simp; done) | (simp; omega) | omega)
def letB (i first : Nat) : UInt8 := UInt8.ofNat (97 + (i + first) % 26)
def lettersL (size first : Nat) : List UInt8 := (List.range size).map fun i => letB i first
theorem letB_nat (i first : Nat) : (letB i first).toNat = 97 + (i + first) % 26 := by
  unfold letB
  rw [UInt8.toNat_ofNat']
  omega
theorem letters_succ (k first : Nat) : lettersL (k + 1) first = lettersL k first ++ [letB k first] := by
  unfold lettersL
  rw [List.range_succ, List.map_append]
  rfl
theorem infoU : (Tryz.prog.info? 5).map (fun i => (i.zero, i.size, i.bytes)) = some (some (.int .u8 0), 1, 1) := by kernel_rfl
theorem one_u8c {w : World} {x : Int} {t : TypeId} : ∀ j u', [Value.int .u8 x][j]? = some u' → (w.alloc (.cells #[.int .u8 x] t)).cell? ((⟨w.heap.size, 0, none⟩ : Addr).add j) = some u' := by
  intro j u' hj
  match j, hj with
  | 0, hj => simp at hj; subst hj; simp [Addr.add]
theorem one_oneU (x : Int) : ∀ u ∈ [Value.int .u8 x], u.oneCell' = true := by intro u hu; simp at hu; subst hu; rfl
theorem by_one {x : Int} {b : UInt8} (h : x = (b.toNat : Int)) : [Value.int .u8 x] = Lib.byteCells [b] := by rw [h]; rfl
theorem own_str {w : World} {B n : Nat} {v : Value} {l : List UInt8} (own : w.ownsRow B 5 1 v n (Lib.byteCells l)) : (convert 22 9 v).run Tryz.prog w = .ok (.string ⟨l.toArray⟩) w := by
  have hl : l.length = n := by have := own.1; rw [Lib.byteCells, List.length_map] at this; omega
  rcases own.2 with ⟨rfl, h0⟩ | ⟨g, cap, cur, rfl, _⟩
  · obtain rfl : l = [] := List.length_eq_zero_iff.1 (by omega)
    rw [run_convert_bytes_string w 22 9 5 none 0 0 Tryz.underlying22 Tryz.underlying5 Tryz.underlying9]
    rfl
  · rw [← hl] at own ⊢
    exact run_convert_bytes_back (P := Tryz.prog) w 22 9 5 ⟨g, 0, none⟩ cap l Tryz.underlying22 Tryz.underlying5 Tryz.underlying9 (fun j hj => own.cells (g := g) rfl j _ (by simp [Lib.byteCells, hj]))
set_option maxHeartbeats 4000000 in
set_option maxRecDepth 100000 in
theorem letters_spec (size first : Nat) (hs : size ≤ 2000) (hf : first ≤ 25) (w : World) :
    Calls Tryz.prog 24 #[.int .i64 size, .int .i64 first] w fun e w' => e = .returned (.string ⟨(lettersL size first).toArray⟩) ∧ Below w.heap.size w w' := by
  obtain ⟨i0, hi0, hz0, hz1, hz2⟩ := info_parts infoU
  go_enter Tryz.func24, Tryz.ntmps24
  go_wp2_with fail
  go_loopw [5, 6] (fun v i wr => ∃ k : Nat, k ≤ size ∧ i = .int .i64 k ∧ Hid (wr.ownsRow w.heap.size 5 1 v k (Lib.byteCells (lettersL k first)) ∧ Below w.heap.size w wr)) (fun _ i _ => size - (intOf i).toNat)
  case atStart => exact ⟨0, Nat.zero_le _, rfl, World.ownsRow_made w #[] 0 (Nat.le_refl _) (by unfold maxLen; omega) rfl, (Below.refl _ _).alloc (Nat.le_refl _) _⟩
  case round =>
    obtain ⟨k, hk, rfl, HR⟩ := hrel
    have hwz := HR.out.2.size
    by_cases hlt : k < size
    · have hlt' : (k : Int) < (size : Int) := by omega
      have own1 := HR.out.1
      have HB := Lib.hid HR.out.2
      clear HR
      go_wp2_with (at_builtin; refine wpList_append_own _ rfl _ _ 22 rfl w.heap.size 5 i0 (.int .u8 0) 1 1 Tryz.underlying22 hi0 hz0 hz1 hz2 rfl (by decide) _ _ _ rfl (own1.alloc _) ⟨wr.heap.size, 0, none⟩ 1 1 [.int .u8 _] rfl rfl one_u8c (one_oneU _) (by unfold maxLen; omega) (by omega) (by simp; omega) ?_)
      intro v4 w4 own4 hgrow4 _
      have hl : (97 + ((k : Int) + (first : Int)) % 26) = ((letB k first).toNat : Int) := by rw [letB_nat]; omega
      have HR4 : Hid (w4.ownsRow w.heap.size 5 1 v4 (k + 1) (Lib.byteCells (lettersL (k + 1) first)) ∧ Below w.heap.size w w4) := by
        refine ⟨?_, (HB.out.alloc hwz _).grown hgrow4 (by simp; omega) (fun k hk => (own1.lt k hk).1)⟩
        rw [letters_succ, Lib.byteCells_append, ← by_one hl]; exact own4
      clear own1 own4 hgrow4 HB hl
      go_wp2
      go_roundw
      case rel => exact ⟨k + 1, by omega, by go_num, HR4⟩
      case measure => simp [intOf]; omega
    · obtain rfl : k = size := by omega
      have hcv := own_str HR.out.1
      have HB := Lib.hid HR.out.2
      clear HR
      go_wp2
      go_ret
      exact ⟨rfl, HB.out⟩
def letZ (first : Nat) (j : Nat) : Int := 97 + ((j : Int) + (first : Int)) % 26
theorem letZ_B (first j : Nat) : letZ first j = ((letB j first).toNat : Int) := by unfold letZ; rw [letB_nat]; omega
theorem step_let (k i : Nat) (p : Nat → Int) : (if i < k + 1 then p i else 0) = if i = k then p k else if i < k then p i else 0 := by
  by_cases e : i = k
  · subst e; simp
  · by_cases h : i < k
    · rw [if_pos (by omega), if_neg e, if_pos h]
    · rw [if_neg (by omega), if_neg e, if_neg h]
set_option maxHeartbeats 4000000 in
set_option maxRecDepth 100000 in
theorem alphabet_any (size first : Nat) (hs : size ≤ 2000) (hf : first ≤ 25) (w : World) :
    Calls Tryz.prog 41 #[.int .i64 size, .int .i64 first] w fun e w' => e = .returned (.string ⟨(lettersL size first).toArray⟩) ∧ Below w.heap.size w w' := by
  obtain ⟨i0, hi, hz0, hz1, hz2⟩ := info_parts infoU
  go_enter Tryz.func41, Tryz.ntmps41
  go_wp2_with (at_make; refine wpList_make_full _ rfl _ _ 22 rfl w.heap.size 5 i0 (.int .u8 0) 1 Tryz.underlying22 hi hz0 hz1 .i64 .i64 _ _ size rfl rfl rfl rfl ?c1 ?c2 ?c3 ?_)
  case c1 => rw [hz2]; omega
  case c2 => unfold maxLen; omega
  case c3 => exact Nat.le_refl _
  intro w1 hown hgrow
  have hsz := made_size hown
  have hcs := made_cells hown
  have hbel := Below.of_grown hgrow
  clear hown hgrow hi hz0 hz1 hz2
  go_wp2_with fail
  go_loopw [11] (fun i wr => ∃ k : Nat, k ≤ size ∧ i = .int .i64 k ∧ Cells .u8 wr w.heap.size 0 size (fun j => if j < k then letZ first j else 0) ∧ Below w.heap.size w wr ∧ w.heap.size < wr.heap.size) (fun i _ => size - (intOf i).toNat)
  case atStart => exact ⟨0, Nat.zero_le _, rfl, by simpa using hcs, hbel, hsz⟩
  case round =>
    obtain ⟨k, hk, rfl, hf, hbel, hsz⟩ := hrel
    by_cases hlt : k < size
    · have c2 := (hf k hlt).1
      have c3 := (hf k hlt).2
      rw [Nat.zero_add] at c2 c3
      have hf' := hf.set k hlt (letZ first k) (fun j => if j < k + 1 then letZ first j else 0) (fun i _ => step_let k i _)
      rw [Nat.zero_add] at hf'
      have hb' := hbel.setCell (p := ⟨w.heap.size, k, none⟩) (Nat.le_refl _) (.int .u8 (letZ first k))
      have hs' : w.heap.size < (wr.setCell ⟨w.heap.size, k, none⟩ (.int .u8 (letZ first k))).heap.size := by simpa [World.setCell] using hsz
      have HF : Hid (∀ x, x = letZ first k → Cells .u8 (wr.setCell ⟨w.heap.size, k, none⟩ (.int .u8 x)) w.heap.size 0 size (fun j => if j < k + 1 then letZ first j else 0) ∧ Below w.heap.size w (wr.setCell ⟨w.heap.size, k, none⟩ (.int .u8 x)) ∧ w.heap.size < (wr.setCell ⟨w.heap.size, k, none⟩ (.int .u8 x)).heap.size) := fun x hx => by
        subst hx; exact ⟨hf', hb', hs'⟩
      have hlt' : (k : Int) < (size : Int) := by omega
      have h0' : (0 : Int) ≤ (k : Int) := by omega
      clear hf hf' hb' hs'
      go_wp2
      go_roundw
      case rel => exact ⟨k + 1, by omega, by go_num, HF.out _ (by unfold letZ; omega)⟩
      case measure => simp [intOf]; omega
    · obtain rfl : k = size := by omega
      have hcv : (convert 22 9 (.slice (some ⟨w.heap.size, 0, none⟩) k k)).run Tryz.prog wr = .ok (.string ⟨(lettersL k first).toArray⟩) wr := by
        have hl : (lettersL k first).length = k := by simp [lettersL]
        have := run_convert_bytes_back (P := Tryz.prog) wr 22 9 5 ⟨w.heap.size, 0, none⟩ k (lettersL k first) Tryz.underlying22 Tryz.underlying5 Tryz.underlying9 (fun j hj => by
          rw [hl] at hj
          have h1 := (hf j hj).1
          rw [Nat.zero_add] at h1
          have hadd : (⟨w.heap.size, 0, none⟩ : Addr).add j = ⟨w.heap.size, j, none⟩ := by unfold Addr.add; split <;> simp_all
          rw [hadd, h1]
          simp only [if_pos hj, letZ_B, lettersL, List.getElem_map, List.getElem_range])
        rw [hl] at this
        exact this
      have HB := Lib.hid hbel
      clear hf hbel
      go_wp2
      go_ret
      exact ⟨rfl, HB.out⟩
end Go.Proofs.YtfgfdjcgfbodfaaGreatDoor
