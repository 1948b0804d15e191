/-
  The fields of a line: the specification's.
-/
import Derived.Test.YtfgfdjcgfbodfaaGreatDoorPcu
import Derived.Test.YtfgfdjcgfbodfaaGreatDoorPnm
namespace Go.Proofs.YtfgfdjcgfbodfaaGreatDoor
open Go.RowKit
set_option linter.unusedSimpArgs false
set_option linter.unusedVariables false

def fbOk (b : UInt8) : Bool := decide (33 ≤ b.toNat) && decide (b.toNat ≤ 126)
def fdOk (l : List UInt8) : Bool := decide (l.length ≠ 0) && l.all fbOk
def fieldsOf (l : List UInt8) : List (List UInt8) := if (cutL 32 l).all fdOk then cutL 32 l else []
def baOf (l : List UInt8) : ByteArray := ⟨l.toArray⟩
def basOf (ps : List (List UInt8)) : List ByteArray := ps.map baOf
theorem basOf_at (ps : List (List UInt8)) (i : Nat) : sAt (basOf ps) i = baOf (ps[i]?.getD []) := by
  unfold sAt basOf
  rw [List.getElem?_map]
  cases ps[i]? <;> rfl
theorem strsV_at (ps : List (List UInt8)) (i : Nat) (h : i < ps.length) : (strsV ps)[i]? = some (.string (sAt (basOf ps) i)) := by
  rw [basOf_at]
  unfold strsV
  rw [List.getElem?_map, List.getElem?_eq_getElem h]
  rfl
def flds (ss : List ByteArray) : Bool := ss.all fun s => fdOk s.data.toList
theorem flds_bas (ps : List (List UInt8)) : flds (basOf ps) = ps.all fdOk := by unfold flds basOf; rw [List.all_map]; rfl
theorem flds_succ (ss : List ByteArray) (k : Nat) (h : k < ss.length) : flds (ss.take (k + 1)) = (flds (ss.take k) && fdOk (sAt ss k).data.toList) := by
  rw [List.take_succ_eq_append_getElem h]
  unfold flds sAt
  rw [List.getElem?_eq_getElem h, List.all_append]
  simp
theorem flds_no {ss : List ByteArray} (k : Nat) (h : flds (ss.take k) = false) : flds ss = false := by
  unfold flds at h ⊢
  rw [← List.take_append_drop k ss, List.all_append, h]
  rfl
theorem fdOk_no {l : List UInt8} (k : Nat) (h : (l.take k).all fbOk = false) : fdOk l = false := by
  unfold fdOk
  rw [← List.take_append_drop k l, List.all_append, h]
  simp
theorem fb_succ {l : List UInt8} (k : Nat) (h : k < l.length) : (l.take (k + 1)).all fbOk = ((l.take k).all fbOk && fbOk l[k]) := by
  rw [List.take_succ_eq_append_getElem h, List.all_append]
  simp
/-- A row of strings whose first lies at the head of a block. -/
def FRow (w : World) (v : Value) (ss : List ByteArray) : Prop := ∃ a c, v = .slice a ss.length c ∧ (ss.length = 0 ∨ ∃ g, a = some ⟨g, 0, none⟩ ∧ ss.length ≤ c ∧ c ≤ maxLen ∧ ∀ i, i < ss.length → w.cell? ⟨g, i, none⟩ = some (.string (sAt ss i)))
theorem frow_own {w : World} {B e : Nat} {v : Value} {ps : List (List UInt8)} (h : w.ownsRow B e 1 v ps.length (strsV ps)) : FRow w v (basOf ps) := by
  have hl : (basOf ps).length = ps.length := by simp [basOf]
  unfold FRow
  rw [hl]
  rcases h.2 with ⟨rfl, h0⟩ | ⟨g, cap, cur, rfl, hb, hg, h1, h2, _⟩
  · exact ⟨none, 0, by rw [h0], .inl h0⟩
  · refine ⟨_, cap, rfl, .inr ⟨g, rfl, h1, h2, fun i hi => ?_⟩⟩
    rw [h.cellAt i (by omega), strsV_at ps i hi]
theorem cut_len (s : UInt8) : ∀ l : List UInt8, (cutL s l).length ≤ l.length + 1 := by
  intro l
  induction l with
  | nil => simp [cutL]
  | cons b l ih =>
    simp only [cutL]
    split
    · simp only [List.length_cons]; omega
    · split
      · next h t e => rw [e] at ih; simp only [List.length_cons] at ih ⊢; omega
      · simp
theorem cut_piece (s : UInt8) : ∀ (l p : List UInt8), p ∈ cutL s l → p.length ≤ l.length := by
  intro l
  induction l with
  | nil => intro p h; simp [cutL] at h; subst h; simp
  | cons b l ih =>
    intro p h
    simp only [cutL] at h
    split at h
    · rcases List.mem_cons.1 h with rfl | h
      · simp
      · have := ih p h; simp only [List.length_cons]; omega
    · split at h
      · next q t e =>
        rcases List.mem_cons.1 h with rfl | h
        · have := ih q (by rw [e]; simp); simp only [List.length_cons]; omega
        · have := ih p (by rw [e]; simp [h]); simp only [List.length_cons]; omega
      · simp at h; subst h; simp
set_option maxHeartbeats 4000000 in
set_option maxRecDepth 100000 in
theorem fields_spec (g n c : Nat) (l : List UInt8) (w : World) (h : UHead w g n l) (hn : n ≤ 1048576) (hc : n ≤ c) (hcm : c ≤ 9223372036854775807) :
    Calls Tryz.prog 12 #[.slice (some ⟨g, 0, none⟩) n c] w fun e w' => ∃ v, e = .returned v ∧ FRow w' v (basOf (fieldsOf l)) ∧ Below w.heap.size w w' := by
  have HC := Lib.hid (cut_spec g n c l 32 w h hn hc hcm)
  have hll := h.1
  clear h
  go_enter Tryz.func12, Tryz.ntmps12
  go_wp2_with fail
  refine HC.out.mono ?_
  rintro e w1 ⟨v, rfl, own, hb1⟩
  have hne := cut_ne 32 l
  have hlen := cut_len 32 l
  have hpc : ∀ i, i < (cutL 32 l).length → (sAt (basOf (cutL 32 l)) i).size ≤ 1048576 := by
    intro i hi
    rw [basOf_at, List.getElem?_eq_getElem hi]
    have := cut_piece 32 l _ (List.getElem_mem hi)
    show ((cutL 32 l)[i]).toArray.size ≤ _
    rw [List.size_toArray]
    omega
  obtain ⟨ps, hps⟩ : ∃ ps, cutL 32 l = ps := ⟨_, rfl⟩
  rw [hps] at hne hlen hpc own
  have HPS := Lib.hid hps
  clear hps
  rcases own.2 with ⟨rfl, h0⟩ | ⟨q, cap, cur, rfl, hbq, hg, h1, h2, _⟩
  · exact absurd (List.length_eq_zero_iff.1 h0) hne
  have hcell : Hid (∀ i, i < ps.length → w1.cell? ⟨q, i, none⟩ = some (.string (sAt (basOf ps) i))) := fun i hi => by rw [own.cellAt i (by omega), strsV_at ps i hi]
  have HO := Lib.hid own
  have HB := Lib.hid hb1
  have HP := Lib.hid hpc
  obtain ⟨m, hm⟩ : ∃ m, ps.length = m := ⟨_, rfl⟩
  rw [hm] at hlen h1 ⊢
  clear own hg hb1 hpc HC
  have HL : Hid ((basOf ps).length = m) := by show _ = _; rw [← hm]; simp [basOf]
  rw [hm] at hcell HP
  have HFO : Hid (flds (basOf ps) = true → FRow w1 (.slice (some ⟨q, 0, none⟩) m cap) (basOf (fieldsOf l))) := fun h => by
    have e : fieldsOf l = ps := by unfold fieldsOf; rw [HPS.out, ← flds_bas, h]; rfl
    rw [e]
    exact ⟨_, cap, by rw [HL.out], .inr ⟨q, rfl, by rw [HL.out]; exact h1, h2, by rw [HL.out]; exact hcell.out⟩⟩
  have HFN : Hid (flds (basOf ps) = false → fieldsOf l = []) := fun h => by unfold fieldsOf; rw [HPS.out, ← flds_bas, h]; rfl
  go_wp2_with fail
  go_loopw [4] (fun i wr => ∃ k : Nat, k ≤ m ∧ i = .int .i64 k ∧ wr = w1 ∧ Hid (flds ((basOf ps).take k) = true)) (fun i _ => m - (intOf i).toNat)
  case atStart => exact ⟨0, Nat.zero_le _, rfl, rfl, rfl⟩
  case round =>
    obtain ⟨k, hk, rfl, rfl, HR⟩ := hrel
    by_cases hlt : k < m
    · have c1 := hcell.out k hlt
      have hlt' : (k : Int) < (m : Int) := by omega
      have h0' : (0 : Int) ≤ (k : Int) := by omega
      have hsz := HP.out k hlt
      have HSS := Lib.hid (flds_succ (basOf ps) k (by rw [HL.out]; exact hlt))
      obtain ⟨sk, hsk⟩ : ∃ sk, sAt (basOf ps) k = sk := ⟨_, rfl⟩
      rw [hsk] at c1 hsz HSS
      clear hsk
      have HSL : Hid (sk.data.toList.length = sk.size) := by show _ = _; rw [Array.length_toList]; rfl
      by_cases hz : sk.size = 0
      · have hz' : ((sk.size : Int) == 0) = true := by rw [hz]; rfl
        have HF : Hid (fieldsOf l = []) := HFN.out (flds_no (k + 1) (by rw [HSS.out]; unfold fdOk; rw [HSL.out, hz]; simp))
        clear HSS HSL hsz HR HFO HFN
        go_wp2
        go_ret
        exact ⟨_, rfl, by rw [HF.out]; exact ⟨_, _, rfl, .inl rfl⟩, HB.out.alloc (HB.out.size) _⟩
      · have hz' : ((sk.size : Int) == 0) = false := by rw [beq_eq_false_iff_ne]; omega
        go_wp2_with fail
        go_loopw [5] (fun j wj => ∃ i : Nat, i ≤ sk.size ∧ j = .int .i64 i ∧ wj = wr ∧ Hid ((sk.data.toList.take i).all fbOk = true)) (fun j _ => sk.size - (intOf j).toNat)
        case atStart => exact ⟨0, Nat.zero_le _, rfl, rfl, rfl⟩
        case round =>
          obtain ⟨i, hi, rfl, rfl, HI⟩ := hrel
          by_cases hlj : i < sk.size
          · have hlj' : (i : Int) < (sk.size : Int) := by omega
            have h0j : (0 : Int) ≤ (i : Int) := by omega
            have HSA := Lib.hid (str_at sk i hlj (by rw [HSL.out]; exact hlj))
            have HT := Lib.hid (fb_succ (l := sk.data.toList) i (by rw [HSL.out]; exact hlj))
            obtain ⟨b, hbb⟩ : ∃ b, sk[i] = b := ⟨_, rfl⟩
            have HDC : Hid ((sk.data.toList.take (i + 1)).all fbOk = ((sk.data.toList.take i).all fbOk && fbOk b)) := by show _ = _; rw [HT.out, ← HSA.out, hbb]
            have hc255 : (b.toNat : Int) ≤ 255 := by have := b.toNat_lt; omega
            clear HT HSA
            by_cases hlo : (b.toNat : Int) < 33
            · have HF : Hid (fieldsOf l = []) := HFN.out (flds_no (k + 1) (by rw [HSS.out, fdOk_no (i + 1) (by rw [HDC.out]; simp [fbOk]; omega)]; simp))
              clear HSS HSL hsz HR HFO HFN HI HDC
              go_wp2
              go_ret
              exact ⟨_, rfl, by rw [HF.out]; exact ⟨_, _, rfl, .inl rfl⟩, HB.out.alloc (HB.out.size) _⟩
            by_cases hhi : 126 < (b.toNat : Int)
            · have HF : Hid (fieldsOf l = []) := HFN.out (flds_no (k + 1) (by rw [HSS.out, fdOk_no (i + 1) (by rw [HDC.out]; simp [fbOk]; omega)]; simp))
              clear HSS HSL hsz HR HFO HFN HI HDC
              go_wp2
              go_ret
              exact ⟨_, rfl, by rw [HF.out]; exact ⟨_, _, rfl, .inl rfl⟩, HB.out.alloc (HB.out.size) _⟩
            · have HI2 : Hid ((sk.data.toList.take (i + 1)).all fbOk = true) := by show _ = _; rw [HDC.out, HI.out]; simp [fbOk]; omega
              clear HI HDC
              go_wp2
              go_roundw
              case rel => exact ⟨i + 1, by omega, by go_num, trivial, HI2⟩
              case measure => simp [intOf]; omega
          · have HR2 : Hid (flds ((basOf ps).take (k + 1)) = true) := by
              have h := HI.out
              rw [List.take_of_length_le (by rw [HSL.out]; omega)] at h
              show _ = _
              rw [HSS.out, HR.out, Bool.true_and]
              unfold fdOk
              rw [h, HSL.out]
              simp [hz]
            clear HI HR
            go_wp2
            go_roundw
            case rel => exact ⟨k + 1, by omega, by go_num, trivial, HR2⟩
            case measure => simp [intOf]; omega
    · have HF : Hid (FRow wr (.slice (some ⟨q, 0, none⟩) m cap) (basOf (fieldsOf l))) := HFO.out (by
        have h := HR.out
        rw [List.take_of_length_le (by rw [HL.out]; omega)] at h
        exact h)
      clear HR
      go_wp2
      go_ret
      exact ⟨_, rfl, HF.out, HB.out⟩
end Go.Proofs.YtfgfdjcgfbodfaaGreatDoor
