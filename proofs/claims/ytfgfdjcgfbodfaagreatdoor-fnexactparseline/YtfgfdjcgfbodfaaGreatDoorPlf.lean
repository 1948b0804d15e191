/-
  onlyNumbers; the specification's l6Nums.
-/
import Derived.Test.YtfgfdjcgfbodfaaGreatDoorPle
namespace Go.Proofs.YtfgfdjcgfbodfaaGreatDoor
open Go.RowKit
set_option linter.unusedSimpArgs false
set_option linter.unusedVariables false

def onlyOk (bs : List (Int × Int)) (ss : List ByteArray) : Bool := decide (ss.length = bs.length) && leadOk bs ss
set_option maxHeartbeats 4000000 in
theorem only_any (a b : Option Addr) (n c m cb : Nat) (ss : List ByteArray) (bs : List (Int × Int)) (w : World) (ha : SRow w a n ss) (hz : ∀ i, i < n → (sAt ss i).size ≤ 1048576) (hn : n ≤ 1048576) (hb : BRow w b m bs) (hm : m ≤ 100) :
    Calls Tryz.prog 40 #[.slice a n c, .slice b m cb] w fun e w' => ∃ v, e = .returned (.tuple #[v, .bool (onlyOk bs ss)]) ∧ (onlyOk bs ss = true → w'.ownsRow w.heap.size 2 1 v n (i64G (numsOf ss))) ∧ (onlyOk bs ss = false → v = .slice none 0 0) ∧ Below w.heap.size w w' := by
  have HC := Lib.hid (leading_any a b n c m cb ss bs w ha hz hn hb hm)
  by_cases h : n = m
  · subst h
    have HE : Hid (onlyOk bs ss = leadOk bs ss) := by show _ = _; unfold onlyOk; rw [ha.1, hb.1]; simp
    have hne : ((n : Int) != (n : Int)) = false := by simp
    clear ha hz hb
    go_enter Tryz.func40, Tryz.ntmps40
    go_wp2_with fail
    refine HC.out.mono ?_
    rintro e w1 ⟨v, rfl, h1, h2, hb1⟩
    have H1 := Lib.hid h1
    have H2 := Lib.hid h2
    have HB := Lib.hid hb1
    clear h1 h2 hb1 HC
    generalize leadOk bs ss = q at *
    go_wp2
    go_ret2
    exact ⟨v, by rw [HE.out]; rfl, (fun h => H1.out (by rw [← HE.out]; exact h)), (fun h => H2.out (by rw [← HE.out]; exact h)), HB.out⟩
  · have HF : Hid (onlyOk bs ss = false) := by show _ = _; unfold onlyOk; rw [ha.1, hb.1, decide_eq_false h]; rfl
    have hne : ((n : Int) != (m : Int)) = true := by simp; omega
    clear ha hz hb HC
    go_enter Tryz.func40, Tryz.ntmps40
    go_wp2
    go_ret2
    exact ⟨_, by rw [HF.out]; rfl, (fun h => by rw [HF.out] at h; cases h), (fun _ => rfl), Below.refl _ _⟩

def allNum (ss : List ByteArray) : Bool := ss.all fun s => isNum s.data.toList
theorem allNum_succ (ss : List ByteArray) (k : Nat) (h : k < ss.length) : allNum (ss.take (k + 1)) = (allNum (ss.take k) && isNum (sAt ss k).data.toList) := by
  rw [List.take_succ_eq_append_getElem h]
  unfold allNum sAt
  rw [List.getElem?_eq_getElem h, List.all_append]
  simp
theorem allNum_no {ss : List ByteArray} (k : Nat) (h : allNum (ss.take k) = false) : allNum ss = false := by
  unfold allNum at h ⊢
  rw [← List.take_append_drop k ss, List.all_append, h]
  rfl
def numsFlag (ss : List ByteArray) : Bool := allNum ss && decide (ss.length ≤ 400)
set_option maxHeartbeats 4000000 in
set_option maxRecDepth 100000 in
theorem nums_spec (a : Option Addr) (n c : Nat) (ss : List ByteArray) (w : World) (ha : SRow w a n ss) (hz : ∀ i, i < n → (sAt ss i).size ≤ 1048576) (hn : n ≤ 1048576) :
    Calls Tryz.prog 14 #[.slice a n c] w fun e w' => ∃ v, e = .returned (.tuple #[v, .bool (numsFlag ss)]) ∧ (numsFlag ss = true → w'.ownsRow w.heap.size 2 1 v n (i64G (numsOf ss))) ∧ Below w.heap.size w w' := by
  obtain ⟨i0, hi0, hz0, hz1, hz2⟩ := info_parts info2
  have HA := Lib.hid ha
  have HZ := Lib.hid hz
  clear ha hz
  go_enter Tryz.func14, Tryz.ntmps14
  go_wp2_with fail
  go_loopw [4, 5] (fun v i wr => ∃ k : Nat, k ≤ n ∧ i = .int .i64 k ∧ Hid (wr.ownsRow w.heap.size 2 1 v k (i64G (numsOf (ss.take k))) ∧ allNum (ss.take k) = true ∧ Below w.heap.size w wr)) (fun _ i _ => n - (intOf i).toNat)
  case atStart => exact ⟨0, Nat.zero_le _, rfl, World.ownsRow_made w #[] 0 (Nat.le_refl _) (by unfold maxLen; omega) rfl, rfl, (Below.refl _ _).alloc (Nat.le_refl _) _⟩
  case round =>
    obtain ⟨k, hk, rfl, HR⟩ := hrel
    have hwz := HR.out.2.2.size
    by_cases hlt : k < n
    · obtain ⟨g, off, rfl, hc⟩ := (HA.out.below HR.out.2.2).2.resolve_left (by omega)
      have c1 := hc k hlt
      have hlt' : (k : Int) < (n : Int) := by omega
      have h0' : (0 : Int) ≤ (k : Int) := by omega
      have hsz := HZ.out k hlt
      have hkl : k < ss.length := by rw [HA.out.1]; exact hlt
      have HNS := Lib.hid (numsOf_succ ss k hkl)
      have HAS := Lib.hid (allNum_succ ss k hkl)
      clear hc hkl
      obtain ⟨sk, hsk⟩ : ∃ sk, sAt ss k = sk := ⟨_, rfl⟩
      rw [hsk] at c1 hsz HNS HAS
      clear hsk
      go_wp2_with fail
      refine (num_spec _ sk (Nat.lt_succ_self _) hsz _).mono ?_
      rintro e w1 ⟨x, rfl, hx, hx0, hx1, hb1⟩
      have own1 := owns_below64 HR.out.1 hb1
      have hb1' := HR.out.2.2.trans (hb1.mono hwz)
      have HP := Lib.hid HR.out.2.1
      have HX := Lib.hid hx
      have hw1 := hb1'.size
      clear hb1 c1 HR hx
      cases hnum : isNum sk.data.toList
      · have HF : Hid (numsFlag ss = false) := by
          show _ = _
          unfold numsFlag
          rw [allNum_no (k + 1) (by rw [HAS.out, hnum, Bool.and_false])]
          rfl
        have HB1 := Lib.hid hb1'
        clear own1 hb1'
        go_wp2
        go_ret2
        exact ⟨_, by rw [HF.out]; rfl, (fun h => by rw [HF.out] at h; cases h), HB1.out⟩
      · have hxv := HX.out hnum
        rw [← hxv] at HNS
        clear hxv HX
        go_wp2_with (at_builtin; refine wpList_append_own _ rfl _ _ 25 rfl w.heap.size 2 i0 (.int .i64 0) 1 8 Tryz.underlying25 hi0 hz0 hz1 hz2 rfl (by decide) _ _ _ rfl (own1.alloc _) ⟨w1.heap.size, 0, none⟩ 1 1 [.int .i64 x] rfl rfl one_i64 (one_oneI _) (by unfold maxLen; omega) (by omega) (by simp; omega) ?_)
        intro v4 w4 own4 hgrow4 _
        have HR4 : Hid (w4.ownsRow w.heap.size 2 1 v4 (k + 1) (i64G (numsOf (ss.take (k + 1)))) ∧ allNum (ss.take (k + 1)) = true ∧ Below w.heap.size w w4) := by
          refine ⟨?_, ?_, (hb1'.alloc hw1 _).grown hgrow4 (by simp; omega) (fun k hk => (own1.lt k hk).1)⟩
          · rw [HNS.out, i64G, List.map_append]; exact own4
          · rw [HAS.out, HP.out, hnum]; rfl
        clear own1 own4 hgrow4 hb1'
        go_wp2
        go_roundw
        case rel => exact ⟨k + 1, by omega, by go_num, HR4⟩
        case measure => simp [intOf]; omega
    · have HO : Hid (wr.ownsRow w.heap.size 2 1 u4 n (i64G (numsOf ss)) ∧ allNum ss = true) := by
        have h := HR.out.1
        have h2 := HR.out.2.1
        obtain rfl : k = n := by omega
        rw [List.take_of_length_le (by rw [HA.out.1]; omega)] at h h2
        exact ⟨h, h2⟩
      have HF : Hid (numsFlag ss = decide (n ≤ 400)) := by show _ = _; unfold numsFlag; rw [HO.out.2, HA.out.1]; rfl
      have HB3 := Lib.hid HR.out.2.2
      clear HR
      by_cases h4 : n ≤ 400
      · have h4' : (n : Int) ≤ 400 := by omega
        have HT : Hid (numsFlag ss = true) := by show _ = _; rw [HF.out, decide_eq_true h4]
        go_wp2
        go_ret2
        exact ⟨_, by rw [HT.out]; rfl, (fun _ => HO.out.1), HB3.out⟩
      · have h4' : ¬ (n : Int) ≤ 400 := by omega
        have HT : Hid (numsFlag ss = false) := by show _ = _; rw [HF.out, decide_eq_false h4]
        go_wp2
        go_ret2
        exact ⟨_, by rw [HT.out]; rfl, (fun h => by rw [HT.out] at h; cases h), HB3.out⟩
end Go.Proofs.YtfgfdjcgfbodfaaGreatDoor
