/-
  Valid, Coi.
-/
import Derived.Test.YtonpdbajoidigaaGreatDoorGc
import Derived.Test.YtonpdbajoidigaaGreatDoorGa
import Derived.Test.YtonpdbajoidigaaGreatDoorCdw
/-
  ValidDisk, the specification's and the program's.
-/
namespace Go.Proofs.YtonpdbajoidigaaGreatDoor
open Go.RowKit
set_option linter.unusedSimpArgs false
set_option linter.unusedVariables false

/-- A write that a disk of nb blocks may have. -/
def OkW (nb : Int) (x : Int × List Int) : Prop := 0 ≤ x.1 ∧ x.1 < nb ∧ x.2.length = 64
/-- A valid disk of n bytes with these writes. -/
def ValidV (n : Nat) (val : List (Int × List Int)) : Prop := n % 64 = 0 ∧ 1 ≤ n / 64 ∧ n / 64 ≤ 1200 ∧ val.length ≤ 400 ∧ ∀ x ∈ val, OkW ((n / 64 : Nat) : Int) x
def validB (n : Nat) (val : List (Int × List Int)) : Bool := decide (n % 64 = 0) && (decide (1 ≤ n / 64) && (decide (n / 64 ≤ 1200) && (decide (val.length ≤ 400) && val.all fun x => decide (0 ≤ x.1) && (decide (x.1 < ((n / 64 : Nat) : Int)) && decide (x.2.length = 64)))))
theorem validB_iff (n : Nat) (val : List (Int × List Int)) : validB n val = true ↔ ValidV n val := by
  simp only [validB, ValidV, OkW, Bool.and_eq_true, decide_eq_true_eq, List.all_eq_true]
theorem validB_true {n : Nat} {val : List (Int × List Int)} (h : ValidV n val) : validB n val = true := (validB_iff n val).2 h
theorem validB_false {n : Nat} {val : List (Int × List Int)} (h : ¬ ValidV n val) : validB n val = false := by
  cases e : validB n val
  · rfl
  · exact absurd ((validB_iff n val).1 e) h

theorem wVal_len (ws : List WV) : (wVal ws).length = ws.length := by simp [wVal]
theorem wVal_at (ws : List WV) (k : Nat) (h : k < ws.length) : (wVal ws)[k]'(by rw [wVal_len]; exact h) = (wBlk ws k, wBs ws k) := by
  simp [wVal, wBlk, wBs, List.getElem?_eq_getElem h]
theorem okW_succ {nb : Int} {ws : List WV} {k : Nat} (h : k < ws.length) (hp : ∀ x ∈ (wVal ws).take k, OkW nb x) (h1 : 0 ≤ wBlk ws k) (h2 : wBlk ws k < nb) (h3 : (wBs ws k).length = 64) : ∀ x ∈ (wVal ws).take (k + 1), OkW nb x := by
  rw [List.take_succ_eq_append_getElem (by rw [wVal_len]; exact h)]
  intro x hx
  rw [List.mem_append] at hx
  rcases hx with hx | hx
  · exact hp x hx
  · rw [List.mem_singleton, wVal_at ws k h] at hx; subst hx; exact ⟨h1, h2, h3⟩
theorem notValid_at {n : Nat} {ws : List WV} {k : Nat} (h : k < ws.length) (hn : ¬ (0 ≤ wBlk ws k ∧ wBlk ws k < ((n / 64 : Nat) : Int) ∧ (wBs ws k).length = 64)) : ¬ ValidV n (wVal ws) := by
  intro hv
  have := hv.2.2.2.2 _ (List.getElem_mem (by rw [wVal_len]; exact h))
  rw [wVal_at ws k h] at this
  exact hn this

set_option maxHeartbeats 4000000 in
theorem validDisk_impl (a p : Option Addr) (n ca m cp : Nat) (ws : List WV) (w : World) (hp : PRead w p m ws) (hn : n ≤ 2097152) (hm : m ≤ 2097152) :
    Calls Tryz.prog 35 #[.agg #[.slice a n ca, .slice p m cp]] w fun e w' => e = .returned (.bool (validB n (wVal ws))) ∧ Below w.heap.size w w' := by
  have hp0 := hp
  obtain ⟨hx, hc, hd⟩ := hp
  by_cases t1 : n % 64 = 0
  case neg =>
    have HF : Hid (validB n (wVal ws) = false) := validB_false (fun hv => t1 hv.1)
    have u1 : ((n : Int) % 64 != 0) = true := by simp; omega
    clear hp0 hc hd
    go_enter Tryz.func35, Tryz.ntmps35
    go_wp2
    go_ret
    exact ⟨ret_boolB HF.out.symm, (Below.refl _ _).alloc (Nat.le_refl _) _⟩
  have u1 : ((n : Int) % 64 != 0) = false := by simp; omega
  by_cases t2 : 1 ≤ n / 64
  case neg =>
    have HF : Hid (validB n (wVal ws) = false) := validB_false (fun hv => t2 hv.2.1)
    have u2 : (n : Int) / 64 < 1 := by omega
    clear hp0 hc hd
    go_enter Tryz.func35, Tryz.ntmps35
    go_wp2
    go_ret
    exact ⟨ret_boolB HF.out.symm, (Below.refl _ _).alloc (Nat.le_refl _) _⟩
  have u2 : decide ((n : Int) / 64 < 1) = false := by simp; omega
  by_cases t3 : n / 64 ≤ 1200
  case neg =>
    have HF : Hid (validB n (wVal ws) = false) := validB_false (fun hv => t3 hv.2.2.1)
    have u3 : 1200 < (n : Int) / 64 := by omega
    clear hp0 hc hd
    go_enter Tryz.func35, Tryz.ntmps35
    go_wp2
    go_ret
    exact ⟨ret_boolB HF.out.symm, (Below.refl _ _).alloc (Nat.le_refl _) _⟩
  have u3 : decide (1200 < (n : Int) / 64) = false := by simp; omega
  by_cases t4 : m ≤ 400
  case neg =>
    have HF : Hid (validB n (wVal ws) = false) := validB_false (fun hv => by have := hv.2.2.2.1; rw [wVal_len] at this; omega)
    have u4 : 400 < (m : Int) := by omega
    clear hp0 hc hd
    go_enter Tryz.func35, Tryz.ntmps35
    go_wp2
    go_ret
    exact ⟨ret_boolB HF.out.symm, (Below.refl _ _).alloc (Nat.le_refl _) _⟩
  have u4 : decide (400 < (m : Int)) = false := by simp; omega
  have HX : Hid (ws.length = m) := hx
  have HV : Hid (∀ (h : ∀ x ∈ wVal ws, OkW ((n / 64 : Nat) : Int) x), validB n (wVal ws) = true) := fun h => validB_true ⟨t1, t2, t3, by rw [wVal_len, hx]; exact t4, h⟩
  clear hx t1 t2 t3
  rcases hc with h0 | ⟨g, off, rfl, hc⟩
  · subst h0
    have HF : Hid (validB n (wVal ws) = true) := HV.out (by rw [List.length_eq_zero_iff.1 HX.out]; simp [wVal])
    clear hp0 hd
    go_enter Tryz.func35, Tryz.ntmps35
    go_wp2
    refine wp_loop_rounds 1 ?_
    rw [rounds_succ]
    go_wp2
    go_ret
    exact ⟨ret_boolB HF.out.symm, (Below.refl _ _).alloc (Nat.le_refl _) _⟩
  · have HA : Hid (PRead w (some ⟨g, off, none⟩) m ws) := hp0
    clear hp0 hc hd
    go_enter Tryz.func35, Tryz.ntmps35
    go_wp2
    go_loopw [32] (fun i wr => ∃ k : Nat, k ≤ m ∧ i = .int .i64 k ∧ (∀ x ∈ (wVal ws).take k, OkW ((n / 64 : Nat) : Int) x) ∧ Below w.heap.size w wr ∧ wr.heap[w.heap.size]? = some (.cells #[.slice a n ca, .slice (some ⟨g, off, none⟩) m cp] 33 (0, 0))) (fun i _ => m - (intOf i).toNat)
    case atStart => exact ⟨0, Nat.zero_le _, rfl, fun x hx => by simp at hx, (Below.refl _ _).alloc (Nat.le_refl _) _, heap_alloc_new w _⟩
    case round =>
      obtain ⟨k, hk, rfl, hok, hbl, hbk⟩ := hrel
      have HOK : Hid (∀ x ∈ (wVal ws).take k, OkW ((n / 64 : Nat) : Int) x) := hok
      have HBK : Hid (wr.heap[w.heap.size]? = some (.cells #[.slice a n ca, .slice (some ⟨g, off, none⟩) m cp] 33 (0, 0))) := hbk
      obtain ⟨v1, v2, _, _⟩ := two_cells hbk
      have hszr : w.heap.size < wr.heap.size := (Array.getElem?_eq_some_iff.1 hbk).1
      clear hok hbk
      by_cases hlt : k < m
      · obtain ⟨_, hc0, hd0⟩ := HA.out.below hbl
        rcases hc0 with h0 | ⟨g', off', he, hc0⟩
        · omega
        injection he with he; injection he with he1 he2
        subst he1; subst he2
        obtain ⟨c1, c2⟩ := hc0 k hlt
        have hlen := (hd0 k hlt).1.1
        have hgl := World.block_lt_of_cell? wr _ c1
        clear hc0 hd0
        have hkl : k < ws.length := by rw [HX.out]; exact hlt
        by_cases y1 : wBlk ws k < 0
        · have HF : Hid (validB n (wVal ws) = false) := validB_false (notValid_at hkl (by omega))
          clear hlen hkl
          go_wp2
          go_ret
          exact ⟨ret_boolB HF.out.symm, hbl.alloc (by omega) _⟩
        by_cases y2 : wBlk ws k < (n : Int) / 64
        · by_cases y3 : wN ws k = 64
          · have HS : Hid (∀ x ∈ (wVal ws).take (k + 1), OkW ((n / 64 : Nat) : Int) x) := okW_succ hkl HOK.out (by omega) (by omega) (by omega)
            have z3 : ((wN ws k : Int) != 64) = false := by simp; omega
            clear hlen hkl y3
            go_wp2
            go_roundw
            case rel => exact ⟨k + 1, by omega, by go_num, HS.out, hbl.alloc (by omega) _, (heap_alloc_old wr _ hszr).trans HBK.out⟩
            case measure => simp [intOf]; omega
          · have HF : Hid (validB n (wVal ws) = false) := validB_false (notValid_at hkl (by omega))
            have z3 : ((wN ws k : Int) != 64) = true := by simp; omega
            clear hlen hkl y3
            go_wp2
            go_ret
            exact ⟨ret_boolB HF.out.symm, hbl.alloc (by omega) _⟩
        · have HF : Hid (validB n (wVal ws) = false) := validB_false (notValid_at hkl (by omega))
          have z2 : (n : Int) / 64 ≤ wBlk ws k := by omega
          clear hlen hkl y2
          go_wp2
          go_ret
          exact ⟨ret_boolB HF.out.symm, hbl.alloc (by omega) _⟩
      · have HF : Hid (validB n (wVal ws) = true) := HV.out (by have := HOK.out; rwa [List.take_of_length_le (by rw [wVal_len, HX.out]; omega)] at this)
        go_wp2
        go_ret
        exact ⟨ret_boolB HF.out.symm, hbl⟩

end Go.Proofs.YtonpdbajoidigaaGreatDoor

/-
  openDisk: the durable blocks.
-/
namespace Go.Proofs.YtonpdbajoidigaaGreatDoor
open Go.RowKit Go.Shelf
set_option linter.unusedSimpArgs false
set_option linter.unusedVariables false

attribute [local go_sem] Oper.semAt_some

/-- Block x of the bytes. -/
def chk (xs : List Int) (x : Nat) : List Int := (xs.drop (64 * x)).take 64
theorem chk_len {xs : List Int} {nb x : Nat} (h : xs.length = nb * 64) (hx : x < nb) : (chk xs x).length = 64 := by
  simp only [chk, List.length_take, List.length_drop]
  omega
theorem chk_all_k (xs : List Int) (nb : Nat) (h : xs.length = nb * 64) : ∀ k, k ≤ nb → (fL nb k).flatMap (fun x => chk xs x.1) = xs.take (64 * k)
  | 0, _ => by simp [fL]
  | k + 1, hk => by
    rw [fL_succ (by omega), List.flatMap_append, chk_all_k xs nb h k (by omega)]
    simp only [List.flatMap_cons, List.flatMap_nil, List.append_nil, chk]
    rw [show 64 * (k + 1) = 64 * k + 64 by omega, List.take_add]
theorem chk_all (xs : List Int) (nb : Nat) (h : xs.length = nb * 64) : (List.finRange nb).flatMap (fun x => chk xs x.1) = xs := by
  rw [← fL_all, chk_all_k xs nb h nb (Nat.le_refl _), List.take_of_length_le (by omega)]

/-- Half-way: the blocks pre are laid. -/
structure OIs (w : World) (xs : List Int) (nb : Nat) (b off ca : Nat) (p : Option Addr) (m cp : Nat) (da : Option Addr) (dc : Nat) (pre : List (Fin nb)) (W : World) : Prop where
  c : W.heap[w.heap.size + 1 + 1]? = some (.cells #[.slice da pre.length dc, .slice none 0 0, .map (some (w.heap.size + 1))] 91 (0, 0))
  row : W.ownsRow w.heap.size 74 64 (.slice da pre.length dc) pre.length (u8s (pre.flatMap fun x => chk xs x.1))
  map : W.heap[w.heap.size + 1]? = some (.map #[] 0)
  o0 : W.heap[w.heap.size]? = some (.cells #[.slice (some ⟨b, off, none⟩) (nb * 64) ca, .slice p m cp] 33 (0, 0))
  o3 : W.heap[w.heap.size + 1 + 1 + 1]? = some (.cells #[.pointer (some ⟨w.heap.size + 1 + 1, 0, none⟩)] 44 (0, 0))
  o4 : W.heap[w.heap.size + 1 + 1 + 1 + 1]? = some (.cells #[.slice (some ⟨b, off, none⟩) (nb * 64) ca] 22 (0, 0))
  o5 : W.heap[w.heap.size + 1 + 1 + 1 + 1 + 1]? = some (.cells #[.int .i64 64] 3 (0, 0))
  below : Below w.heap.size w W

/-- What a round may touch. -/
def GO (N : Nat) (g : Nat) : Prop := N ≤ g ∧ g ≠ N + 1 + 1 + 1 + 1 ∧ g ≠ N + 1 + 1 + 1 + 1 + 1

section
variable {w W w2 : World} {xs : List Int} {nb b off ca : Nat} {p : Option Addr} {m cp : Nat} {da : Option Addr} {dc : Nat} {pre : List (Fin nb)}

theorem tag_ne {W : World} {B e sz n g : Nat} {v : Value} {vs : List Value} {o : Obj} (h : W.ownsRow B e sz v n vs) (hg : W.heap[g]? = some o) (ho : ∀ cur, o ≠ .cells cur e (0, 0)) : v.ownBlock ≠ some g := by
  intro e'
  obtain ⟨cur, hc⟩ := owns_tag h e'
  rw [hg] at hc
  injection hc with hc
  exact ho cur hc
theorem cells_ne {c c' : Array Value} {t t' : TypeId} {f f' : Nat × Nat} (h : t ≠ t') : Obj.cells c t f ≠ Obj.cells c' t' f' := by
  intro e; injection e with _ e; exact h e

theorem OIs.step (h : OIs w xs nb b off ca p m cp da dc pre W) (x : Fin nb) {o : Obj} {g' cap' : Nat}
    (hg2 : (W.drew.alloc o).grownBy w2 (Value.slice da pre.length dc).ownBlock) (hown2 : w2.ownsRow w.heap.size 74 64 (.slice (some ⟨g', 0, none⟩) (pre.length + 1) cap') (pre.length + 1) (u8s (pre.flatMap fun x => chk xs x.1) ++ u8s (chk xs x.1))) :
    w2.heap[w.heap.size + 1 + 1]? = some (.cells #[.slice da pre.length dc, .slice none 0 0, .map (some (w.heap.size + 1))] 91 (0, 0)) ∧
    OIs w xs nb b off ca p m cp (some ⟨g', 0, none⟩) cap' (pre ++ [x]) (w2.setCell ⟨w.heap.size + 1 + 1, 0, none⟩ (.slice (some ⟨g', 0, none⟩) (pre.length + 1) cap')) ∧
    KeepsFrom (w.heap.size + 1 + 1 + 1 + 1 + 1 + 1) W (w2.setCell ⟨w.heap.size + 1 + 1, 0, none⟩ (.slice (some ⟨g', 0, none⟩) (pre.length + 1) cap')) ∧
    Kept (GO w.heap.size) W (w2.setCell ⟨w.heap.size + 1 + 1, 0, none⟩ (.slice (some ⟨g', 0, none⟩) (pre.length + 1) cap')) := by
  have k12 : Kept (fun g => (Value.slice da pre.length dc).ownBlock = some g) W w2 := (Kept.of_below (((Below.refl _ W).drew).alloc (Nat.le_refl _) o) _).trans (grown_kept hg2)
  have ks := Kept.setCell w2 ⟨w.heap.size + 1 + 1, 0, none⟩ (.slice (some ⟨g', 0, none⟩) (pre.length + 1) cap') (fun g => g = w.heap.size + 1 + 1) rfl
  have kt : Kept (fun g => (Value.slice da pre.length dc).ownBlock = some g ∨ g = w.heap.size + 1 + 1) W (w2.setCell ⟨w.heap.size + 1 + 1, 0, none⟩ (.slice (some ⟨g', 0, none⟩) (pre.length + 1) cap')) := (k12.mono fun g hg => .inl hg).trans (ks.mono fun g hg => .inr hg)
  have nC := tag_ne h.row h.c (fun cur => cells_ne (by decide))
  have nM := tag_ne h.row h.map (fun cur => by simp)
  have n0 := tag_ne h.row h.o0 (fun cur => cells_ne (by decide))
  have n3 := tag_ne h.row h.o3 (fun cur => cells_ne (by decide))
  have n4 := tag_ne h.row h.o4 (fun cur => cells_ne (by decide))
  have n5 := tag_ne h.row h.o5 (fun cur => cells_ne (by decide))
  have lt : ∀ {g : Nat} {o : Obj}, W.heap[g]? = some o → g < W.heap.size := fun hh => (Array.getElem?_eq_some_iff.1 hh).1
  have gC : w2.heap[w.heap.size + 1 + 1]? = some (.cells #[.slice da pre.length dc, .slice none 0 0, .map (some (w.heap.size + 1))] 91 (0, 0)) := (k12.block _ (lt h.c) nC).trans h.c
  have keep : ∀ {g : Nat} {o : Obj}, W.heap[g]? = some o → (Value.slice da pre.length dc).ownBlock ≠ some g → g ≠ w.heap.size + 1 + 1 → (w2.setCell ⟨w.heap.size + 1 + 1, 0, none⟩ (.slice (some ⟨g', 0, none⟩) (pre.length + 1) cap')).heap[g]? = some o := fun hh h1 h2 => (kt.block _ (lt hh) (fun hx => hx.elim h1 h2)).trans hh
  have hl : (pre ++ [x]).length = pre.length + 1 := by simp
  have hBe : ∀ g, (Value.slice da pre.length dc).ownBlock = some g → w.heap.size ≤ g := fun g hg => (h.row.lt g hg).1
  refine ⟨gC, ⟨?_, ?_, keep h.map nM (by omega), keep h.o0 n0 (by omega), keep h.o3 n3 (by omega), keep h.o4 n4 (by omega), keep h.o5 n5 (by omega), ?_⟩, ⟨kt.size, ?_⟩, ?_⟩
  · rw [hl]
    simp [World.setCell, Array.getElem?_modify, gC]
  · rw [hl, List.flatMap_append]
    have e : u8s (pre.flatMap (fun x => chk xs x.1) ++ [x].flatMap fun x => chk xs x.1) = u8s (pre.flatMap fun x => chk xs x.1) ++ u8s (chk xs x.1) := by simp [u8s]
    rw [e]
    exact row_kept hown2 ks (fun g hg hh => by
      subst hh
      obtain ⟨cur, hc⟩ := owns_tag hown2 hg
      rw [gC] at hc
      injection hc with hc
      exact absurd hc (cells_ne (by decide)))
  · exact h.below.trans (kt.below (Nat.le_of_lt (lt h.o0)) (fun g hg => by
      rcases hg with hg | rfl
      · exact hBe g hg
      · omega))
  · intro k o' hk hh ho
    refine keep hh (fun e => ?_) (by omega)
    obtain ⟨cur, hc⟩ := owns_tag h.row e
    rw [hh] at hc
    injection hc with hc
    subst hc
    simp [Obj.isCells] at ho
  · refine kt.mono (fun g hg => ?_)
    rcases hg with hg | rfl
    · exact ⟨hBe g hg, fun e => n4 (e ▸ hg), fun e => n5 (e ▸ hg)⟩
    · exact ⟨by omega, by omega, by omega⟩

theorem OIs.own : OwnFrom (w.heap.size + 1 + 1 + 1 + 1 + 1 + 1) (fun (pre : List (Fin nb)) W => ∃ da dc, OIs w xs nb b off ca p m cp da dc pre W) := by
  rintro pre W W' row ⟨da, dc, h⟩ hg hr
  have keep : ∀ {g : Nat} {o : Obj}, W.heap[g]? = some o → (g < w.heap.size + 1 + 1 + 1 + 1 + 1 + 1 ∨ o.isCells = true) → W'.heap[g]? = some o := fun {g o} hh hc => by
    refine (hg.block g (Array.getElem?_eq_some_iff.1 hh).1 (fun e => ?_)).trans hh
    obtain ⟨h1, o', ho', hi⟩ := hr g e.symm
    rcases hc with hc | hc
    · omega
    · rw [hh] at ho'; injection ho' with ho'; subst ho'; rw [hc] at hi; cases hi
  refine ⟨da, dc, ⟨keep h.c (.inl (by omega)), ?_, keep h.map (.inl (by omega)), keep h.o0 (.inl (by omega)), keep h.o3 (.inl (by omega)), keep h.o4 (.inl (by omega)), keep h.o5 (.inl (by omega)), ?_⟩⟩
  · refine ⟨h.row.1, h.row.2.imp id ?_⟩
    rintro ⟨g, cap, cur, e, h1, h2, h3⟩
    exact ⟨g, cap, cur, e, h1, keep h2 (.inr rfl), h3⟩
  · refine h.below.trans ⟨hg.os, hg.tape, hg.output, hg.size, fun j hj => hg.block j (Nat.lt_of_lt_of_le hj h.below.size) (fun e => ?_)⟩
    have := (hr j e.symm).1
    omega
end
end Go.Proofs.YtonpdbajoidigaaGreatDoor
