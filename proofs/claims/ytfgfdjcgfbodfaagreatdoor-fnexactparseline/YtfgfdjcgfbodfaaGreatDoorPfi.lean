/-
  The fields of a line: the program's.
-/
import Derived.Test.YtfgfdjcgfbodfaaGreatDoorPff
namespace Go.Proofs.YtfgfdjcgfbodfaaGreatDoor
open Go.RowKit
set_option linter.unusedSimpArgs false
set_option linter.unusedVariables false

theorem isFieldByte_any (b : UInt8) (w : World) :
    Calls Tryz.prog 38 #[.int .u8 b.toNat] w fun e w' => e = .returned (.bool (fbOk b)) ∧ w' = w := by
  by_cases h1 : 33 ≤ b.toNat
  · by_cases h2 : b.toNat ≤ 126
    · go_enter Tryz.func38, Tryz.ntmps38
      go_wp2
      go_ret
      exact ⟨by unfold fbOk; rw [decide_eq_true h1, decide_eq_true h2]; simp; omega, rfl⟩
    · go_enter Tryz.func38, Tryz.ntmps38
      go_wp2
      go_ret
      exact ⟨by unfold fbOk; rw [decide_eq_true h1, decide_eq_false h2]; simp; omega, rfl⟩
  · go_enter Tryz.func38, Tryz.ntmps38
    go_wp2
    go_ret
    exact ⟨by first | rfl | (unfold fbOk; rw [decide_eq_false h1]; rfl), rfl⟩
theorem conv_mark {P : Program} (w : World) (src dst e : TypeId) (s : ByteArray) (hs : P.underlying src = some .string) (hd : P.underlying dst = some (.slice e)) (he : P.underlying e = some (.int .u8)) :
    ∃ c cur q w', (convert src dst (.string s)).run P w = .ok (.slice (some ⟨w.heap.size, 0, none⟩) s.size c) w' ∧ w'.heap[w.heap.size]? = some (.cells cur e (q, q + 1)) ∧ (∀ k (h : k < s.size), cur[k]? = some (.int .u8 (s[k].toNat : Int))) ∧ Below w.heap.size w w' ∧ w'.heap.size = w.heap.size + 1 := by
  refine ⟨_, _, _, _, run_bytes_of_string (P := P) w src dst e s hs hd he, heap_alloc_new w.drew _, fun k h => ?_, ((Below.refl _ _).drew).alloc (Nat.le_refl _) _, by simp⟩
  have h' : k < s.data.size := h
  unfold bytesRow
  rw [Array.getElem?_append_left (by simp; exact h)]
  rw [Array.getElem?_map, Array.getElem?_eq_getElem h']
  rfl
set_option maxHeartbeats 4000000 in
set_option maxRecDepth 100000 in
theorem isField_any (s : ByteArray) (hs : s.size ≤ 1048576) (w : World) :
    Calls Tryz.prog 27 #[.string s] w fun e w' => e = .returned (.bool (fdOk s.data.toList)) ∧ Below w.heap.size w w' := by
  have HSL : Hid (s.data.toList.length = s.size) := by show _ = _; rw [Array.length_toList]; rfl
  obtain ⟨c1, cur1, q1, w1, hcv, hg1, hcur, hb1, hs1⟩ := conv_mark (P := Tryz.prog) w 9 22 5 s Tryz.underlying9 Tryz.underlying22 Tryz.underlying5
  have HCU : Hid (∀ k (h : k < s.size), w1.cell? ⟨w.heap.size, k, none⟩ = some (.int .u8 (s[k].toNat : Int))) := fun k h => by
    rw [World.cell?, hg1]; exact hcur k h
  have HB := Lib.hid hb1
  clear hb1 hg1 hs1 hcur
  go_enter Tryz.func27, Tryz.ntmps27
  go_wp2_with fail
  go_loopw [8] (fun i wr => ∃ k : Nat, k ≤ s.size ∧ i = .int .i64 k ∧ wr = w1 ∧ Hid ((s.data.toList.take k).all fbOk = true)) (fun i _ => s.size - (intOf i).toNat)
  case atStart => exact ⟨0, Nat.zero_le _, rfl, rfl, rfl⟩
  case round =>
    obtain ⟨k, hk, rfl, rfl, HI⟩ := hrel
    by_cases hlt : k < s.size
    · have hlt' : (k : Int) < (s.size : Int) := by omega
      have h0' : (0 : Int) ≤ (k : Int) := by omega
      have HSA := Lib.hid (str_at s k hlt (by rw [HSL.out]; exact hlt))
      have HT := Lib.hid (fb_succ (l := s.data.toList) k (by rw [HSL.out]; exact hlt))
      have cc := HCU.out k hlt
      obtain ⟨b, hbb⟩ : ∃ b, s[k] = b := ⟨_, rfl⟩
      rw [hbb] at cc
      have HDC : Hid ((s.data.toList.take (k + 1)).all fbOk = ((s.data.toList.take k).all fbOk && fbOk b)) := by show _ = _; rw [HT.out, ← HSA.out, hbb]
      have hfc := isFieldByte_any b
      clear HT HSA hbb
      cases hf : fbOk b
      · have HF : Hid (fdOk s.data.toList = false) := fdOk_no (k + 1) (by rw [HDC.out, hf]; simp)
        rw [hf] at hfc
        have HFC := Lib.hid hfc
        clear hfc hf HI HDC
        go_wp2_with fail
        refine (HFC.out _).mono ?_
        rintro e w' ⟨rfl, hw'⟩
        have hw' := hw'.symm
        subst hw'
        go_wp2
        go_ret
        exact ⟨by rw [HF.out]; rfl, HB.out⟩
      · have HI2 : Hid ((s.data.toList.take (k + 1)).all fbOk = true) := by show _ = _; rw [HDC.out, HI.out, hf]; rfl
        rw [hf] at hfc
        have HFC := Lib.hid hfc
        clear hfc hf HI HDC
        go_wp2_with fail
        refine (HFC.out _).mono ?_
        rintro e w' ⟨rfl, hw'⟩
        have hw' := hw'.symm
        subst hw'
        go_wp2
        go_roundw
        case rel => exact ⟨k + 1, by omega, by go_num, trivial, HI2⟩
        case measure => simp [intOf]; omega
    · have HF : Hid (fdOk s.data.toList = !s.toList.isEmpty) := by
        have h := HI.out
        rw [List.take_of_length_le (by rw [HSL.out]; omega)] at h
        show _ = _
        unfold fdOk
        rw [h, Bool.and_true, ByteArray.toList_eq]
        cases s.data.toList <;> simp
      clear HI
      go_wp2
      go_ret
      exact ⟨by rw [HF.out]; rfl, HB.out⟩
theorem split_any (l : List UInt8) (m : Int) (w : World) (hl : l.length ≤ 1048576) (hm : w.cell? ⟨0, 0, none⟩ = some (.int .i64 m)) :
    Calls Tryz.prog 26 #[.string ⟨l.toArray⟩, .string ⟨#[32]⟩] w fun e w' => e = .returned (.slice (some ⟨w.heap.size, 0, none⟩) (cutL 32 l).length (cutL 32 l).length) ∧ w' = w.alloc (.cells (strsV (cutL 32 l)).toArray 9) := by
  have h := strings_Split ⟨l.toArray⟩ ⟨#[32]⟩ m w (by show l.toArray.size < _; rw [List.size_toArray]; omega) hm (by decide)
  have h1 := Lib.splitB_all ⟨#[32]⟩ (by decide) 0 (Lib.countB ⟨l.toArray⟩ ⟨#[32]⟩) ⟨l.toArray⟩ rfl
  have h2 := splitB_cut ⟨l.toArray⟩ 32
  have e2 : cutL 32 (⟨l.toArray⟩ : ByteArray).data.toList = cutL 32 l := by simp
  rw [e2] at h2
  have e3 : (Lib.splitB ⟨#[32]⟩ 0 (Lib.countB ⟨l.toArray⟩ ⟨#[32]⟩) ⟨l.toArray⟩).map Value.string = strsV (cutL 32 l) := by
    rw [← h2]; unfold strsV; rw [List.map_map]; rfl
  have e4 : Lib.countB ⟨l.toArray⟩ ⟨#[32]⟩ + 1 = (cutL 32 l).length := by rw [← h1, ← h2, List.length_map]
  rw [e3, e4] at h
  exact h
set_option maxHeartbeats 4000000 in
set_option maxRecDepth 100000 in
theorem cutFields_any (g n c : Nat) (l : List UInt8) (m : Int) (w : World) (h : UHead w g n l) (hn : n ≤ 1048576) (hm : w.cell? ⟨0, 0, none⟩ = some (.int .i64 m)) :
    Calls Tryz.prog 16 #[.slice (some ⟨g, 0, none⟩) n c] w fun e w' => ∃ v, e = .returned (.tuple #[v, .bool ((cutL 32 l).all fdOk)]) ∧ (((cutL 32 l).all fdOk) = true → FRow w' v (basOf (cutL 32 l))) ∧ Below w.heap.size w w' := by
  have hcv := conv_piece h 0 n c (Nat.zero_le _) (Nat.le_refl _)
  have e0 : (l.drop 0).take (n - 0) = l := by rw [List.drop_zero, Nat.sub_zero]; exact List.take_of_length_le (by rw [h.1]; exact Nat.le_refl _)
  rw [e0, Nat.sub_zero] at hcv
  have hll := h.1
  have HS := Lib.hid (split_any l m w (by omega) hm)
  clear h e0 hm
  have hlen := cut_len 32 l
  have hpc : Hid (∀ i, i < (cutL 32 l).length → (sAt (basOf (cutL 32 l)) i).size ≤ 1048576) := by
    intro i hi
    rw [basOf_at, List.getElem?_eq_getElem hi]
    have := cut_piece 32 l _ (List.getElem_mem hi)
    show ((cutL 32 l)[i]).toArray.size ≤ _
    rw [List.size_toArray]
    omega
  obtain ⟨ps, hps⟩ : ∃ ps, cutL 32 l = ps := ⟨_, rfl⟩
  rw [hps] at HS hlen hpc ⊢
  clear hps
  obtain ⟨N, hN⟩ : ∃ N, ps.length = N := ⟨_, rfl⟩
  have hcell : Hid (∀ i, i < N → (w.alloc (.cells (strsV ps).toArray 9)).cell? ⟨w.heap.size, i, none⟩ = some (.string (sAt (basOf ps) i))) := fun i hi => by
    rw [World.cell?, heap_alloc_new]
    show (strsV ps).toArray[i]? = _
    rw [List.getElem?_toArray, strsV_at ps i (by omega)]
  have HB : Hid (Below w.heap.size w (w.alloc (.cells (strsV ps).toArray 9))) := (Below.refl _ _).alloc (Nat.le_refl _) _
  rw [hN] at HS hlen hpc
  have HL : Hid ((basOf ps).length = N) := by show _ = _; rw [← hN]; simp [basOf]
  have HF := Lib.hid (flds_bas ps)
  generalize hW : w.alloc (.cells (strsV ps).toArray 9) = W at *
  clear hW
  go_enter Tryz.func16, Tryz.ntmps16
  go_wp2_with fail
  refine HS.out.mono ?_
  rintro e w1 ⟨rfl, hw1⟩
  have hw1 := hw1.symm
  subst hw1
  go_wp2_with fail
  go_loopw [12] (fun i wr => ∃ k : Nat, k ≤ N ∧ i = .int .i64 k ∧ Hid (Below W.heap.size W wr ∧ flds ((basOf ps).take k) = true)) (fun i _ => N - (intOf i).toNat)
  case atStart => exact ⟨0, Nat.zero_le _, rfl, Below.refl _ _, rfl⟩
  case round =>
    obtain ⟨k, hk, rfl, HR⟩ := hrel
    by_cases hlt : k < N
    · have hlt' : (k : Int) < (N : Int) := by omega
      have h0' : (0 : Int) ≤ (k : Int) := by omega
      have c1 := (HR.out.1.cell (World.block_lt_of_cell? W _ (hcell.out k hlt))).trans (hcell.out k hlt)
      have hsz := hpc.out k hlt
      have HSS := Lib.hid (flds_succ (basOf ps) k (by rw [HL.out]; exact hlt))
      obtain ⟨sk, hsk⟩ : ∃ sk, sAt (basOf ps) k = sk := ⟨_, rfl⟩
      rw [hsk] at c1 hsz HSS
      clear hsk
      have HFC := Lib.hid (isField_any sk hsz wr)
      go_wp2_with fail
      refine HFC.out.mono ?_
      rintro e w2 ⟨rfl, hb2⟩
      have HB2 : Hid (Below W.heap.size W w2) := HR.out.1.trans (hb2.mono HR.out.1.size)
      have HFT := Lib.hid HR.out.2
      clear hb2 HFC HR c1
      cases hf : fdOk sk.data.toList
      · have HFF : Hid (ps.all fdOk = false) := by show _ = _; rw [← HF.out]; exact flds_no (k + 1) (by rw [HSS.out, hf]; simp)
        go_wp2
        go_ret2
        exact ⟨_, by rw [HFF.out]; rfl, (fun h => by rw [HFF.out] at h; cases h), HB.out.trans (HB2.out.mono HB.out.size)⟩
      · have HR2 : Hid (Below W.heap.size W w2 ∧ flds ((basOf ps).take (k + 1)) = true) := ⟨HB2.out, by rw [HSS.out, hf, HFT.out]; rfl⟩
        go_wp2
        go_roundw
        case rel => exact ⟨k + 1, by omega, by go_num, HR2⟩
        case measure => simp [intOf]; omega
    · have HFT : Hid (ps.all fdOk = true) := by
        have h := HR.out.2
        rw [List.take_of_length_le (by rw [HL.out]; omega), HF.out] at h
        exact h
      have HB2 := Lib.hid HR.out.1
      clear HR
      go_wp2
      go_ret2
      refine ⟨_, by rw [HFT.out]; rfl, (fun _ => ⟨_, N, by rw [HL.out]; rfl, .inr ⟨w.heap.size, rfl, by rw [HL.out]; exact Nat.le_refl _, by unfold maxLen; omega, by rw [HL.out]; exact fun i hi => (HB2.out.cell (World.block_lt_of_cell? W _ (hcell.out i hi))).trans (hcell.out i hi)⟩⟩), HB.out.trans (HB2.out.mono HB.out.size)⟩
end Go.Proofs.YtfgfdjcgfbodfaaGreatDoor
