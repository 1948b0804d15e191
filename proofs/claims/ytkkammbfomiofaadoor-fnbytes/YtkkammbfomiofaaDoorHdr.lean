/-
  Headers: validHeader, headerBlock, the program's EncodeHeader.
-/
import Derived.Test.YtkkammbfomiofaaDoorGb
namespace Go.Proofs.YtkkammbfomiofaaDoor
open Go.RowKit
set_option linter.unusedSimpArgs false
set_option linter.unusedVariables false

def partB (n : Int) : Bool := decide (0 ≤ n) && decide (n ≤ 65535)
def hdrB (s p q : Int) : Bool := (decide (1 ≤ s) && decide (s ≤ 1099511627776)) && (partB p && partB q)
/-- The block of a header. -/
def hdrL (s p q : Int) : List Int := beB s 8 ++ (beB p 2 ++ (beB q 2 ++ (List.replicate 44 0 ++ beB s 8)))
def encH (s p q : Int) : List Int := if hdrB s p q = true then hdrL s p q else []
theorem hdrL_len (s p q : Int) : (hdrL s p q).length = 64 := by simp [hdrL, beB_len]

theorem part_any (n : Int) (w : World) : Calls Tryd.prog 50 #[.int .i64 n] w fun e w' => e = .returned (.bool (partB n)) ∧ w' = w := by
  by_cases h : 0 ≤ n
  · go_enter Tryd.func50, Tryd.ntmps50
    go_wp2
    go_ret
    exact ⟨ret_boolB (by simp [partB, h]), rfl⟩
  · have h' : n < 0 := by omega
    go_enter Tryd.func50, Tryd.ntmps50
    go_wp2
    go_ret
    exact ⟨ret_boolB (by simp [partB]; omega), rfl⟩

set_option maxHeartbeats 1000000 in
theorem validHeader_any (s p q : Int) (w : World) :
    Calls Tryd.prog 35 #[.agg #[.int .i64 s, .int .i64 p, .int .i64 q]] w fun e w' => e = .returned (.bool (hdrB s p q)) ∧ Below w.heap.size w w' := by
  have HB : ∀ o, Below w.heap.size w (w.alloc o) := fun o => (Below.refl _ _).alloc (Nat.le_refl _) o
  by_cases h1 : s < 1
  · go_enter Tryd.func35, Tryd.ntmps35
    go_wp2
    go_ret
    exact ⟨ret_boolB (by simp [hdrB]; omega), HB _⟩
  by_cases h2 : 1099511627776 < s
  · go_enter Tryd.func35, Tryd.ntmps35
    go_wp2
    go_ret
    exact ⟨ret_boolB (by simp [hdrB]; omega), HB _⟩
  have h3 : 1 ≤ s := by omega
  have h4 : s ≤ 1099511627776 := by omega
  clear h1 h2
  have HS : Hid ((decide (1 ≤ s) && decide (s ≤ 1099511627776)) = true) := by show _ = true; simp [h3, h4]
  cases hp : partB p
  · have HF : Hid (hdrB s p q = false) := by show _ = _; rw [hdrB, hp]; simp
    go_enter Tryd.func35, Tryd.ntmps35
    go_wp2_with fail
    refine (part_any p _).mono ?_
    rintro e w1 ⟨rfl, rfl⟩
    rw [hp]
    go_wp2
    go_ret
    exact ⟨ret_boolB HF.out.symm, HB _⟩
  · have HF : Hid (hdrB s p q = partB q) := by show _ = _; rw [hdrB, hp, HS.out]; simp
    go_enter Tryd.func35, Tryd.ntmps35
    go_wp2_with fail
    refine (part_any p _).mono ?_
    rintro e w1 ⟨rfl, rfl⟩
    rw [hp]
    go_wp2_with fail
    refine (part_any q _).mono ?_
    rintro e w1 ⟨rfl, rfl⟩
    go_wp2
    go_ret
    exact ⟨ret_boolB HF.out.symm, HB _⟩

theorem hdr_bounds {s p q : Int} (h : hdrB s p q = true) : (1 ≤ s ∧ s ≤ 1099511627776) ∧ (0 ≤ p ∧ p ≤ 65535) ∧ 0 ≤ q ∧ q ≤ 65535 := by
  simp only [hdrB, partB, Bool.and_eq_true, decide_eq_true_eq] at h
  exact ⟨h.1, h.2.1, h.2.2⟩
theorem beB_zero (n : Nat) : beB 0 n = List.replicate n 0 := by
  induction n with
  | zero => rfl
  | succ n ih =>
    rw [beB, show (0 : Int) / 256 = 0 from rfl, ih, List.replicate_succ']; rfl
def hNums (s p q : Int) : List (Int × Int) := [(8, s), (2, p), (2, q), (44, 0), (8, s)]
theorem hNums_put (s p q : Int) : putL (hNums s p q) = hdrL s p q := by
  simp only [putL, hNums, List.flatMap_cons, List.flatMap_nil, List.append_nil, hdrL]
  rw [show (44 : Int).toNat = 44 from rfl, beB_zero]; rfl
theorem hNums_ok {s p q : Int} (h : hdrB s p q = true) : NOk 5 (hNums s p q) := by
  obtain ⟨⟨a1, a2⟩, ⟨b1, b2⟩, c1, c2⟩ := hdr_bounds h
  intro i hi
  match i, hi with
  | 0, _ => refine ⟨⟨?_, ?_⟩, ?_, ?_⟩ <;> simp [nW, nV, hNums] <;> omega
  | 1, _ => refine ⟨⟨?_, ?_⟩, ?_, ?_⟩ <;> simp [nW, nV, hNums] <;> omega
  | 2, _ => refine ⟨⟨?_, ?_⟩, ?_, ?_⟩ <;> simp [nW, nV, hNums] <;> omega
  | 3, _ => refine ⟨⟨?_, ?_⟩, ?_, ?_⟩ <;> simp [nW, nV, hNums]
  | 4, _ => refine ⟨⟨?_, ?_⟩, ?_, ?_⟩ <;> simp [nW, nV, hNums] <;> omega
theorem padL_full (xs : List Int) (m : Nat) (h : xs.length = m) : padL xs m = xs := by simp [padL, h]
theorem nread5 {w : World} {s p q : Int} {t : TypeId} {g : Nat} (hg : g = w.heap.size) : NRead (w.alloc (.cells #[.int .i64 8, .int .i64 s, .int .i64 2, .int .i64 p, .int .i64 2, .int .i64 q, .int .i64 44, .int .i64 0, .int .i64 8, .int .i64 s] t)) (some ⟨g, 0, none⟩) 5 (hNums s p q) := by
  subst hg
  refine ⟨rfl, .inr ⟨w.heap.size, 0, rfl, fun i hi => ?_⟩⟩
  match i, hi with
  | 0, _ => exact ⟨by rw [World.cell?_alloc_mark]; rfl, by rw [World.cell?_alloc_mark]; rfl⟩
  | 1, _ => exact ⟨by rw [World.cell?_alloc_mark]; rfl, by rw [World.cell?_alloc_mark]; rfl⟩
  | 2, _ => exact ⟨by rw [World.cell?_alloc_mark]; rfl, by rw [World.cell?_alloc_mark]; rfl⟩
  | 3, _ => exact ⟨by rw [World.cell?_alloc_mark]; rfl, by rw [World.cell?_alloc_mark]; rfl⟩
  | 4, _ => exact ⟨by rw [World.cell?_alloc_mark]; rfl, by rw [World.cell?_alloc_mark]; rfl⟩

theorem u8_all (xs : List Int) : (u8s xs).toArray.all (·.oneCell') = true := by
  rw [Array.all_eq_true_iff_forall_mem]
  intro x hx
  exact many_u8 _ x (by simpa using hx)

theorem info52s : (Tryd.prog.info? 52).map (·.size) = some 64 := by kernel_rfl

set_option maxHeartbeats 1000000 in
theorem headerBlock_any (s p q : Int) (w : World) (h : hdrB s p q = true) :
    Calls Tryd.prog 36 #[.agg #[.int .i64 s, .int .i64 p, .int .i64 q]] w fun e w' => e = .returned (.agg (u8s (hdrL s p q)).toArray) ∧ Below w.heap.size w w' := by
  have hok := hNums_ok h
  have hX : (u8s (hdrL s p q)).toArray.size = 64 := by rw [List.size_toArray, u8s_len, hdrL_len]
  have h1X := u8_all (hdrL s p q)
  have HP : Hid (u8s (padL (putL (hNums s p q)) 64) = u8s (hdrL s p q)) := by show _ = _; rw [hNums_put, padL_full _ _ (hdrL_len s p q)]
  have HL : Hid ((putL (hNums s p q)).length ≤ 64) := by show _ ≤ _; rw [hNums_put, hdrL_len]; exact Nat.le_refl _
  clear h
  go_enter Tryd.func36, Tryd.ntmps36
  go_wp2_with fail
  refine (putBlock_any _ _ _ (hNums s p q) _ (by exact nread5 (by simp)) hok (by omega) HL.out).mono ?_
  rintro e w1 ⟨rfl, hb⟩
  rw [HP.out]
  have k2 : w1.heap[w.heap.size + 1]? = some (.cells z64.toArray 52 (0, 0)) := by
    rw [z64_lit]
    exact ((hb.block (w.heap.size + 1) (by simp)).trans (heap_alloc_old _ _ (by simp))).trans (heap_alloc2_new w _ _)
  have hb5 : Below w.heap.size w w1 := ((((Below.refl _ _).alloc (Nat.le_refl _) _).alloc (by simp) _).alloc (by simp; omega) _).trans (hb.mono (by simp; omega))
  generalize hXe : (u8s (hdrL s p q)).toArray = X at *
  have HXe : Hid ((u8s (hdrL s p q)).toArray = X) := hXe
  clear hXe hb hok
  go_wp2_with (refine wpList_store_row rfl 52 _ _ rfl (w.heap.size + 1) X rfl rfl 52 _ k2 (by rw [hX]; exact info52s) (by rw [hX]; rfl) h1X ?_)
  refine bodyPost_ret (v := .agg X) (results_cell_row Tryd.results36 _ _ (w.heap.size + 1) 52 X (0, 0) _ rfl (setRow_heap w1 (w.heap.size + 1) _ X 52 _ k2) Tryd.underlying52 rfl (by rw [hX]; exact info52s)) rfl ?_
  exact ⟨by rw [HXe.out], below_setRow hb5 (by omega) X⟩

theorem row_of_block {w : World} {g : Nat} {xs : List Int} {G : Nat → Prop} {t : TypeId} (hg : w.heap[g]? = some (.cells (u8s xs).toArray t (0, 0))) (hG : G g) : Row .u8 G w (some ⟨g, 0, none⟩) xs.length xs := by
  refine ⟨rfl, .inr ⟨g, 0, rfl, hG, fun i hi => ?_⟩⟩
  rw [Nat.zero_add]
  refine ⟨?_, frozen_of_row w g i _ t hg⟩
  rw [cell_of_row w g i _ t _ hg]
  simp [u8s, hi]

set_option maxHeartbeats 1000000 in
theorem encodeHeader_impl (s p q : Int) (w : World) :
    Calls Tryd.prog 13 #[.agg #[.int .i64 s, .int .i64 p, .int .i64 q]] w fun e w' => ∃ a c, e = .returned (.slice a (encH s p q).length c) ∧ Row .u8 (fun g => w.heap.size ≤ g ∧ g < w'.heap.size) w' a (encH s p q).length (encH s p q) ∧ Below w.heap.size w w' := by
  cases h : hdrB s p q
  · have HF : Hid (encH s p q = []) := by show _ = _; unfold encH; rw [h]; rfl
    go_enter Tryd.func13, Tryd.ntmps13
    go_wp2_with fail
    refine (validHeader_any s p q _).mono ?_
    rintro e w1 ⟨rfl, hb⟩
    rw [h]
    have hb1 : Below w.heap.size w w1 := ((Below.refl _ _).alloc (Nat.le_refl _) _).trans (hb.mono (by simp))
    clear hb
    go_wp2
    go_ret
    refine ⟨some ⟨w1.heap.size, 0, none⟩, 0, ?_, ?_, hb1.alloc hb1.size _⟩
    · rw [HF.out]; rfl
    · rw [HF.out]; exact ⟨rfl, .inl rfl⟩
  · have HF : Hid (encH s p q = hdrL s p q) := by show _ = _; unfold encH; rw [h]; rfl
    have hX : (u8s (hdrL s p q)).toArray.size = 64 := by rw [List.size_toArray, u8s_len, hdrL_len]
    have h1X := u8_all (hdrL s p q)
    go_enter Tryd.func13, Tryd.ntmps13
    go_wp2_with fail
    refine (validHeader_any s p q _).mono ?_
    rintro e w1 ⟨rfl, hb⟩
    rw [h]
    have hb1 : Below w.heap.size w w1 := ((Below.refl _ _).alloc (Nat.le_refl _) _).trans (hb.mono (by simp))
    have k0 := (hb.block w.heap.size (by simp)).trans (heap_alloc_new w _)
    have c0 : w1.cell? ⟨w.heap.size, 0, none⟩ = some (.int .i64 s) := by rw [cell_of_row w1 w.heap.size 0 _ _ _ k0]; rfl
    have c1 : w1.cell? ⟨w.heap.size, 1, none⟩ = some (.int .i64 p) := by rw [cell_of_row w1 w.heap.size 1 _ _ _ k0]; rfl
    have c2 : w1.cell? ⟨w.heap.size, 2, none⟩ = some (.int .i64 q) := by rw [cell_of_row w1 w.heap.size 2 _ _ _ k0]; rfl
    clear hb k0
    go_wp2_with fail
    refine (headerBlock_any s p q _ h).mono ?_
    rintro e w2 ⟨rfl, hb2⟩
    have hb3 : Below w.heap.size w w2 := hb1.trans (hb2.mono hb1.size)
    have s3 := hb3.size
    generalize hXe : (u8s (hdrL s p q)).toArray = X at *
    have HXe : Hid ((u8s (hdrL s p q)).toArray = X) := hXe
    clear hXe hb2 c0 c1 c2 hb1 h
    go_wp2_with (refine wpList_store_row rfl 52 _ _ rfl w2.heap.size X rfl rfl 52 _ (heap_alloc_new w2 _) (by rw [hX]; exact info52s) (by rw [hX]; rfl) h1X ?_)
    go_ret
    have hg := setRow_heap (w2.alloc _) w2.heap.size _ X 52 _ (heap_alloc_new w2 (.cells z64.toArray 52))
    rw [z64_lit] at hg
    refine ⟨some ⟨w2.heap.size, 0, none⟩, 64, ?_, ?_, below_setRow (hb3.alloc s3 _) s3 X⟩
    · rw [HF.out, hdrL_len]; rfl
    · rw [HF.out]
      rw [← HXe.out] at hg ⊢
      exact row_of_block hg ⟨s3, by simp⟩
end Go.Proofs.YtkkammbfomiofaaDoor
