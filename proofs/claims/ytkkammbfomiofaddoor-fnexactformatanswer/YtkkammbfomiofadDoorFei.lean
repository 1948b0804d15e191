/-
  Escapes: the program's.
-/
import Derived.Test.YtkkammbfomiofadDoorFes
namespace Go.Proofs.YtkkammbfomiofadDoor
open Go.RowKit
set_option linter.unusedSimpArgs false
set_option linter.unusedVariables false

theorem own_ne_mark {w : World} {B e e' n g q : Nat} {v : Value} {xs : List Value} {cur : Array Value} (h : w.ownsRow B e 1 v n xs) (hg : w.heap[g]? = some (.cells cur e' (q, q + 1))) : some g ≠ v.ownBlock := by
  rcases h.2 with ⟨rfl, _⟩ | ⟨g', cap, cur', rfl, _, hg', _⟩
  · simp [Value.ownBlock]
  · intro e1
    simp only [Value.ownBlock, Option.some.injEq] at e1
    subst e1
    rw [hg] at hg'
    simp at hg'
theorem conv_mark {P : Program} (w : World) (src dst e : TypeId) (s : ByteArray) (hs : P.underlying src = some .string) (hd : P.underlying dst = some (.slice e)) (he : P.underlying e = some (.int .u8)) :
    ∃ c cur q w', (convert src dst (.string s)).run P w = .ok (.slice (some ⟨w.heap.size, 0, none⟩) s.size c) w' ∧ w'.heap[w.heap.size]? = some (.cells cur e (q, q + 1)) ∧ (∀ k (h : k < s.size), cur[k]? = some (.int .u8 (s[k].toNat : Int))) ∧ Below w.heap.size w w' ∧ w'.heap.size = w.heap.size + 1 := by
  refine ⟨_, _, _, _, run_bytes_of_string (P := P) w src dst e s hs hd he, heap_alloc_new w.drew _, fun k h => ?_, ((Below.refl _ _).drew).alloc (Nat.le_refl _) _, by simp⟩
  have h' : k < s.data.size := h
  unfold bytesRow
  rw [Array.getElem?_append_left (by simp; exact h)]
  rw [Array.getElem?_map, Array.getElem?_eq_getElem h']
  rfl
theorem hexF : ∀ d : Fin 16, (⟨#[48, 49, 50, 51, 52, 53, 54, 55, 56, 57, 65, 66, 67, 68, 69, 70]⟩ : ByteArray)[d.1]'(d.2) = hexB d.1 := by decide
theorem hexlit (d : Nat) (h : d < (⟨#[48, 49, 50, 51, 52, 53, 54, 55, 56, 57, 65, 66, 67, 68, 69, 70]⟩ : ByteArray).size) : (⟨#[48, 49, 50, 51, 52, 53, 54, 55, 56, 57, 65, 66, 67, 68, 69, 70]⟩ : ByteArray)[d]'h = hexB d := hexF ⟨d, h⟩
theorem two_bytes {w : World} {b : UInt8} {t : TypeId} : ∀ j u', [Value.int .u8 37, .int .u8 (b.toNat : Int)][j]? = some u' → (w.alloc (.cells #[.int .u8 37, .int .u8 (b.toNat : Int)] t)).cell? ((⟨w.heap.size, 0, none⟩ : Addr).add j) = some u' := by
  intro j u' hj
  match j, hj with
  | 0, hj => simp at hj; subst hj; simp [Addr.add]
  | 1, hj => simp at hj; subst hj; simp [Addr.add]
theorem a_byte {w : World} {x : Int} {t : TypeId} : ∀ j u', [Value.int .u8 x][j]? = some u' → (w.alloc (.cells #[.int .u8 x] t)).cell? ((⟨w.heap.size, 0, none⟩ : Addr).add j) = some u' := by
  intro j u' hj
  match j, hj with
  | 0, hj => simp at hj; subst hj; simp [Addr.add]
theorem two_one (x y : Int) : ∀ u ∈ [Value.int .u8 x, .int .u8 y], u.oneCell' = true := by intro u hu; simp at hu; rcases hu with rfl | rfl <;> rfl
theorem one_one (x : Int) : ∀ u ∈ [Value.int .u8 x], u.oneCell' = true := by intro u hu; simp at hu; subst hu; rfl

set_option maxHeartbeats 6400000 in
set_option maxRecDepth 100000 in
theorem escaped_impl (s : ByteArray) (hs : s.size ≤ 1048576) (w : World) :
    Calls Tryd.prog 24 #[.string s] w fun e w' => e = .returned (.string ⟨(escL s.data.toList).toArray⟩) ∧ Below w.heap.size w w' := by
  obtain ⟨i0, hi, hz0, hz1, hz2⟩ := info_parts infoB
  have HSL : Hid (s.data.toList.length = s.size) := by show _ = _; rw [Array.length_toList]; rfl
  obtain ⟨c1, cur1, q1, w1, hcv, hg1, hcur, hb1, hs1⟩ := conv_mark (P := Tryd.prog) (w.alloc (.cells #[] 5)) 9 44 5 s Tryd.underlying9 Tryd.underlying44 Tryd.underlying5
  have e1 : (w.alloc (.cells #[] 5)).heap.size = w.heap.size + 1 := by simp
  rw [e1] at hcv hg1 hs1
  have HB1 : Hid (Below w.heap.size w w1) := ((Below.refl _ _).alloc (Nat.le_refl _) _).trans (hb1.mono (by simp))
  have HO1 : Hid (w1.ownsRow w.heap.size 5 1 (.slice (some ⟨w.heap.size, 0, none⟩) 0 0) 0 []) := (World.ownsRow_made w #[] 0 (Nat.le_refl _) (by unfold maxLen; omega) rfl).kept (row := none) ⟨hb1.os, hb1.tape, hb1.output, hb1.size, fun k hk _ => hb1.block k hk⟩ (by simp [Value.ownBlock])
  have HG := Lib.hid hg1
  have HCU := Lib.hid hcur
  clear hb1 hg1 hs1 hcur e1
  go_enter Tryd.func24, Tryd.ntmps24
  go_wp2_with fail
  go_loopw [3, 10] (fun v i wr => ∃ k : Nat, k ≤ s.size ∧ i = .int .i64 k ∧ Hid (wr.ownsRow w.heap.size 5 1 v (escL (s.data.toList.take k)).length (Lib.byteCells (escL (s.data.toList.take k))) ∧ wr.heap[w.heap.size + 1]? = some (.cells cur1 5 (q1, q1 + 1)) ∧ Below w.heap.size w wr)) (fun _ i _ => s.size - (intOf i).toNat)
  case atStart => exact ⟨0, Nat.zero_le _, rfl, HO1.out, HG.out, HB1.out⟩
  case round =>
    obtain ⟨k, hk, rfl, HR⟩ := hrel
    by_cases hlt : k < s.size
    · have hlt' : (k : Int) < (s.size : Int) := by omega
      have h0' : (0 : Int) ≤ (k : Int) := by omega
      have HS := Lib.hid (escL_succ s.data.toList k (by rw [HSL.out]; exact hlt))
      have HLE := Lib.hid (show (escL (s.data.toList.take k)).length ≤ 3 * k from Nat.le_trans (escL_len _) (by rw [List.length_take]; omega))
      have HBY := Lib.hid (byte_at s k hlt (by rw [HSL.out]; exact hlt))
      obtain ⟨own, hgr, hbr⟩ := HR.out
      have hwz := hbr.size
      have cb : wr.cell? ⟨w.heap.size + 1, k, none⟩ = some (.int .u8 (s[k].toNat : Int)) := by rw [cell_of_row wr _ k _ _ _ hgr]; exact HCU.out k hlt
      rw [HBY.out] at HS
      clear HR HBY
      generalize s[k] = b at *
      have hb1 : (b.toNat : Int) ≤ 255 := by have := b.toNat_lt; omega
      have hne := own_ne_mark (own.alloc (.cells #[.int .u8 37] 5)) ((heap_alloc_old wr (.cells #[.int .u8 37] 5) (Array.getElem?_eq_some_iff.1 hgr).1).trans hgr)
      have hlg := (Array.getElem?_eq_some_iff.1 hgr).1
      cases hp : plainB b
      case' false => have HEB := Lib.hid (show escB b = [37, hexB (b.toNat / 16), hexB (b.toNat % 16)] from by unfold escB; rw [hp]; rfl)
      case' true => have HEB := Lib.hid (show escB b = [b] from by unfold escB; rw [hp]; rfl)
      case true =>
        unfold plainB at hp
        simp only [Bool.and_eq_true, decide_eq_true_eq] at hp
        have h3 : ((b.toNat : Int) == 37) = false := by simp; omega
        have hfc := isFieldByte_any b
        rw [decide_eq_true hp.1, decide_eq_true hp.2.1] at hfc
        rw [Bool.and_true] at hfc
        have HFC := Lib.hid hfc
        clear hfc hp
        go_wp2_with fail
        refine (HFC.out _).mono ?_
        rintro e w' ⟨rfl, hw'⟩
        have hw' := hw'.symm
        subst hw'
        go_wp2_with (at_builtin; refine wpList_append_own _ rfl _ _ 44 rfl w.heap.size 5 i0 (.int .u8 0) 1 1 Tryd.underlying44 hi hz0 hz1 hz2 rfl (by decide) _ _ _ rfl (own.alloc _) ⟨wr.heap.size, 0, none⟩ 1 1 [.int .u8 (b.toNat : Int)] rfl rfl a_byte (one_one _) (by have := HLE.out; unfold maxLen; omega) (by have := HLE.out; omega) (by simp; omega) ?_)
        intro v2 w2 own2 hgrow _
        have HR2 : Hid (w2.ownsRow w.heap.size 5 1 v2 (escL (s.data.toList.take (k + 1))).length (Lib.byteCells (escL (s.data.toList.take (k + 1)))) ∧ w2.heap[w.heap.size + 1]? = some (.cells cur1 5 (q1, q1 + 1)) ∧ Below w.heap.size w w2) := by
          refine ⟨?_, (hgrow.block _ (by simp; omega) hne).trans ((heap_alloc_old wr _ hlg).trans hgr), (hbr.alloc hwz _).grown hgrow (by simp; omega) (fun k hk => (own.lt k hk).1)⟩
          rw [HS.out, HEB.out, List.length_append, Lib.byteCells_append]
          exact own2
        clear own own2 hgrow hbr HEB HS HLE hgr cb hne hlg
        go_wp2
        go_roundw
        case rel => exact ⟨k + 1, by omega, by go_num, HR2⟩
        case measure => simp [intOf]; omega
      case' false =>
        have hk1 : b.toNat / 16 < 16 := by have := b.toNat_lt; omega
        by_cases h37 : (b.toNat : Int) = 37
        case' pos =>
          have h3 : ((b.toNat : Int) == 37) = true := by simpa using h37
          clear h37 hp
        case' neg =>
          have h3 : ((b.toNat : Int) == 37) = false := by simpa using h37
          have hfc := isFieldByte_any b
          have hff : (decide (33 ≤ b.toNat) && decide (b.toNat ≤ 126)) = false := by
            unfold plainB at hp
            rw [decide_eq_true (p := b.toNat ≠ 37) (by omega), Bool.and_true] at hp
            exact hp
          rw [hff] at hfc
          have HFC := Lib.hid hfc
          clear hfc hff hp h37
          go_wp2_with fail
          refine (HFC.out _).mono ?_
          rintro e w' ⟨rfl, hw'⟩
          have hw' := hw'.symm
          subst hw'
      all_goals
        go_wp2_with (at_builtin; refine wpList_append_own _ rfl _ _ 44 rfl w.heap.size 5 i0 (.int .u8 0) 1 1 Tryd.underlying44 hi hz0 hz1 hz2 rfl (by decide) _ _ _ rfl (own.alloc _) ⟨wr.heap.size, 0, none⟩ 2 2 [.int .u8 37, .int .u8 _] rfl rfl two_bytes (two_one _ _) (by have := HLE.out; unfold maxLen; omega) (by have := HLE.out; omega) (by simp; omega) ?_)
        intro v2 w2 own2 hgrow _
        have hg2 := (hgrow.block _ (by simp; omega) hne).trans ((heap_alloc_old wr _ hlg).trans hgr)
        have hb2 : Below w.heap.size w w2 := (hbr.alloc hwz _).grown hgrow (by simp; omega) (fun k hk => (own.lt k hk).1)
        have hwz2 := hb2.size
        have hne2 := own_ne_mark own2 hg2
        have hlg2 := (Array.getElem?_eq_some_iff.1 hg2).1
        clear own hgrow hbr hgr cb hne hlg
        go_wp2_with (at_builtin; refine wpList_append_own _ rfl _ _ 44 rfl w.heap.size 5 i0 (.int .u8 0) 1 1 Tryd.underlying44 hi hz0 hz1 hz2 rfl (by decide) _ _ _ rfl (own2.alloc _) ⟨w2.heap.size, 0, none⟩ 1 1 [.int .u8 _] rfl rfl a_byte (one_one _) (by have := HLE.out; unfold maxLen; omega) (by have := HLE.out; omega) (by simp; omega) ?_)
        intro v3 w3 own3 hgrow3 _
        have HR2 : Hid (w3.ownsRow w.heap.size 5 1 v3 (escL (s.data.toList.take (k + 1))).length (Lib.byteCells (escL (s.data.toList.take (k + 1)))) ∧ w3.heap[w.heap.size + 1]? = some (.cells cur1 5 (q1, q1 + 1)) ∧ Below w.heap.size w w3) := by
          refine ⟨?_, (hgrow3.block _ (by simp; omega) hne2).trans ((heap_alloc_old w2 _ hlg2).trans hg2), (hb2.alloc hwz2 _).grown hgrow3 (by simp; omega) (fun k hk => (own2.lt k hk).1)⟩
          rw [HS.out, HEB.out, List.length_append, Lib.byteCells_append]
          simp only [hexlit, List.append_assoc] at own3
          exact own3
        clear own2 own3 hgrow3 hb2 HEB HS HLE hg2 hne2 hlg2
        go_wp2
        go_roundw
        case rel => exact ⟨k + 1, by omega, by go_num, HR2⟩
        case measure => simp [intOf]; omega
    · have own := HR.out.1
      rw [List.take_of_length_le (by rw [HSL.out]; omega)] at own
      have hcb : (convert 44 9 u3).run Tryd.prog wr = .ok (.string ⟨(escL s.data.toList).toArray⟩) wr := by
        generalize escL s.data.toList = l at own
        rcases own.2 with ⟨rfl, h0⟩ | ⟨g, cap, cur, rfl, _⟩
        · obtain rfl : l = [] := List.length_eq_zero_iff.1 h0
          rw [run_convert_bytes_string wr 44 9 5 none 0 0 Tryd.underlying44 Tryd.underlying5 Tryd.underlying9]
          rfl
        · exact run_convert_bytes_back (P := Tryd.prog) wr 44 9 5 ⟨g, 0, none⟩ cap l Tryd.underlying44 Tryd.underlying5 Tryd.underlying9 (fun j hj => own.cells (g := g) rfl j _ (by simp [Lib.byteCells, hj]))
      have HB := Lib.hid HR.out.2.2
      clear own HR
      go_wp2
      go_ret
      exact ⟨rfl, HB.out⟩
end Go.Proofs.YtkkammbfomiofadDoor
