/-
  The program's tellData and tellNames.
-/
import Derived.Test.YtkkammbfomiofadDoorFei
import Derived.Test.YtkkammbfomiofadDoorFst
import Derived.Test.YtkkammbfomiofadDoorFsy
namespace Go.Proofs.YtkkammbfomiofadDoor
open Go.RowKit
set_option linter.unusedSimpArgs false
set_option linter.unusedVariables false

theorem one_row (w : World) (x : Int) (t : TypeId) : IRow .i64 (w.alloc (.cells #[.int .i64 x] t)) (some ⟨w.heap.size, 0, none⟩) 1 [x] :=
  ⟨rfl, .inr ⟨w.heap.size, 0, rfl, fun i hi => by obtain rfl : i = 0 := by omega
                                                  simp⟩⟩
theorem one_range {x : Int} (h0 : -9223372036854775808 ≤ x) (h1 : x ≤ 9223372036854775807) : ∀ i, i < 1 → -9223372036854775808 ≤ [x][i]?.getD 0 ∧ [x][i]?.getD 0 ≤ 9223372036854775807 := by
  intro i hi
  obtain rfl : i = 0 := by omega
  exact ⟨h0, h1⟩
def restD (d : ByteArray) : List UInt8 := if d.size = 0 then [] else 32 :: escL d.data.toList
def dataL (d : ByteArray) : List UInt8 := [100, 97, 116, 97] ++ sayL [(d.size : Int)] ++ restD d
def blankL (ss : List ByteArray) : List UInt8 := ss.flatMap fun s => 32 :: s.data.toList
def namesL (ss : List ByteArray) : List UInt8 := [110, 97, 109, 101, 115] ++ sayL [(ss.length : Int)] ++ blankL ss
theorem sayL_one_len {x : Int} (h0 : -9223372036854775808 ≤ x) (h1 : x ≤ 9223372036854775807) : (sayL [x]).length ≤ 22 := by
  have := sayL_len [x] 1 (Nat.le_refl _) (fun i hi => one_range h0 h1 i hi)
  simpa using this

set_option maxHeartbeats 4000000 in
set_option maxRecDepth 100000 in
theorem tellData_any (d : ByteArray) (hd : d.size ≤ 1048576) (w : World) (htab : Tab w) :
    Calls Tryd.prog 17 #[.string d] w fun e w' => e = .returned (.string ⟨(dataL d).toArray⟩) ∧ Below w.heap.size w w' := by
  have HT := Lib.hid htab
  have hba := fun o : Obj => (Below.refl w.heap.size w).alloc (Nat.le_refl _) o
  clear htab
  by_cases h0 : d.size = 0
  · obtain rfl : d = ⟨#[]⟩ := ByteArray.ext (Array.eq_empty_of_size_eq_zero h0)
    have HE : Hid ((⟨(([100, 97, 116, 97] : List UInt8) ++ sayL [0]).toArray⟩ : ByteArray) = ⟨(dataL ⟨#[]⟩).toArray⟩) := by
      show _ = _
      unfold dataL restD
      rw [if_pos h0, List.append_nil]
      rfl
    go_enter Tryd.func17, Tryd.ntmps17
    go_wp2_with fail
    refine (told_any ⟨#[100, 97, 116, 97]⟩ (by decide) _ 1 _ [0] _ (one_row w _ _) (by omega) (one_range (by omega) (by omega)) (HT.out.below (hba _))).mono ?_
    rintro e w1 ⟨rfl, hb1⟩
    have HB1 : Hid (Below w.heap.size w w1) := (hba _).trans (hb1.mono (by simp))
    clear hb1
    go_wp2
    go_ret
    exact ⟨by rw [← HE.out]; rfl, HB1.out⟩
  · have hsz : (sayL [(d.size : Int)]).length ≤ 22 := sayL_one_len (by omega) (by omega)
    have hes : (⟨(escL d.data.toList).toArray⟩ : ByteArray).size ≤ 3145728 := by
      have := escL_len d.data.toList
      have h2 : d.data.toList.length = d.size := by rw [Array.length_toList]; rfl
      rw [size_list]
      omega
    have HC := Lib.hid (fun w => escaped_impl d hd w)
    have HQ := Lib.hid (show restD d = 32 :: escL d.data.toList from by unfold restD; rw [if_neg h0])
    generalize hX : (⟨(escL d.data.toList).toArray⟩ : ByteArray) = X at *
    have HX := Lib.hid hX
    clear hX
    go_enter Tryd.func17, Tryd.ntmps17
    go_wp2_with fail
    refine (told_any ⟨#[100, 97, 116, 97]⟩ (by decide) _ 1 _ [(d.size : Int)] _ (one_row w _ _) (by omega) (one_range (by omega) (by omega)) (HT.out.below (hba _))).mono ?_
    rintro e w1 ⟨rfl, hb1⟩
    have HB1 : Hid (Below w.heap.size w w1) := (hba _).trans (hb1.mono (by simp))
    clear hb1
    obtain ⟨T, hT⟩ : ∃ T : ByteArray, T = ⟨((⟨#[100, 97, 116, 97]⟩ : ByteArray).data.toList ++ sayL [(d.size : Int)]).toArray⟩ := ⟨_, rfl⟩
    rw [← hT]
    have hTs : T.size ≤ 26 := by rw [hT, size_list, List.length_append]; show 4 + _ ≤ 26; omega
    have HE : Hid (T ++ ⟨#[32]⟩ ++ X = ⟨(dataL d).toArray⟩) := by
      show _ = _
      unfold dataL
      rw [hT, ← HX.out, HQ.out, ByteArray.mk_append_mk, ByteArray.mk_append_mk]
      simp
    have h32 : (⟨#[32]⟩ : ByteArray).size = 1 := rfl
    have hs1 : ¬ 9223372036854775807 < T.size + 1 := by omega
    have hs2 : ¬ 9223372036854775807 < T.size + 1 + X.size := by omega
    have hem : d.toList.isEmpty = false := by
      cases he : d.toList.isEmpty
      · rfl
      · have h1 : d.toList = [] := by simpa using he
        have h2 : d.toList.length = d.size := by rw [Go.ByteArray.toList_eq, Array.length_toList]; rfl
        rw [h1] at h2
        exact absurd h2.symm h0
    clear hT hsz
    go_wp2_with fail
    refine (HC.out _).mono ?_
    rintro e w2 ⟨rfl, hb2⟩
    have HB2 : Hid (Below w.heap.size w w2) := HB1.out.trans (hb2.mono HB1.out.size)
    clear hb2 HC
    go_wp2
    go_ret
    exact ⟨by rw [← HE.out]; rfl, HB2.out⟩
theorem join_blank (h : List UInt8) (ss : List ByteArray) : Lib.join (h :: ss.map (·.data.toList)) [32] = h ++ blankL ss := by
  rw [Lib.join_cons]
  unfold Lib.joinTail blankL
  rw [List.map_map, List.flatMap]
  rfl
theorem blankL_len (ss : List ByteArray) : (blankL ss).length = ss.length + totS ss := by
  induction ss with
  | nil => rfl
  | cons s ss ih =>
    have h : s.data.toList.length = s.size := by rw [Array.length_toList]; rfl
    unfold blankL totS at ih ⊢
    simp only [List.flatMap_cons, List.length_append, List.length_cons, List.map_cons, List.sum_cons, h, ih]
    omega
theorem shead_cells {w : World} {g n : Nat} {ss : List ByteArray} (h : SHead w g n ss) : ∀ j u, (ss.map Value.string)[j]? = some u → w.cell? ((⟨g, 0, none⟩ : Addr).add j) = some u := by
  intro j u hj
  rw [List.getElem?_map] at hj
  cases e : ss[j]? with
  | none => rw [e] at hj; cases hj
  | some s =>
    rw [e] at hj
    injection hj with hj
    subst hj
    have hl : j < n := by have := (List.getElem?_eq_some_iff.1 e).1; rw [h.1] at this; exact this
    have hadd : (⟨g, 0, none⟩ : Addr).add j = ⟨g, j, none⟩ := by unfold Addr.add; split <;> simp_all
    rw [hadd, h.2 j hl]
    unfold sAt
    rw [e]
    rfl
theorem str_one (ss : List ByteArray) : ∀ u ∈ ss.map Value.string, u.oneCell' = true := by
  intro u hu
  obtain ⟨s, _, rfl⟩ := List.mem_map.1 hu
  rfl
theorem own_word (w : World) (T : ByteArray) : (w.alloc (.cells #[.string T] 9)).ownsRow w.heap.size 9 1 (.slice (some ⟨w.heap.size, 0, none⟩) 1 1) 1 [.string T] :=
  ⟨rfl, .inr ⟨w.heap.size, 1, #[.string T], rfl, Nat.le_refl _, heap_alloc_new w _, Nat.le_refl _, by unfold maxLen; omega, rfl, rfl⟩⟩

set_option maxHeartbeats 4000000 in
set_option maxRecDepth 100000 in
theorem tellNames_any (g n c : Nat) (ss : List ByteArray) (w : World) (ha : SHead w g n ss) (hg : g < w.heap.size) (hn : n ≤ 1048576) (ht : totS ss ≤ 1048576) (htab : Tab w) :
    Calls Tryd.prog 18 #[.slice (some ⟨g, 0, none⟩) n c] w fun e w' => e = .returned (.string ⟨(namesL ss).toArray⟩) ∧ Below w.heap.size w w' := by
  obtain ⟨i0, hi, hz0, hz1, hz2⟩ := info_parts infoS
  have HT := Lib.hid htab
  have HA := Lib.hid ha
  have hba := fun o : Obj => (Below.refl w.heap.size w).alloc (Nat.le_refl _) o
  clear htab ha
  go_enter Tryd.func18, Tryd.ntmps18
  go_wp2_with fail
  refine (told_any ⟨#[110, 97, 109, 101, 115]⟩ (by decide) _ 1 _ [(n : Int)] _ (one_row w _ _) (by omega) (one_range (by omega) (by omega)) (HT.out.below (hba _))).mono ?_
  rintro e w1 ⟨rfl, hb1⟩
  have HB1 : Hid (Below w.heap.size w w1) := (hba _).trans (hb1.mono (by simp))
  clear hb1
  obtain ⟨T, hT⟩ : ∃ T : ByteArray, T = ⟨((⟨#[110, 97, 109, 101, 115]⟩ : ByteArray).data.toList ++ sayL [(n : Int)]).toArray⟩ := ⟨_, rfl⟩
  rw [← hT]
  have hTs : T.size ≤ 27 := by
    have := sayL_one_len (x := (n : Int)) (by omega) (by omega)
    rw [hT, size_list, List.length_append]
    show 5 + _ ≤ 27
    omega
  have HTT := Lib.hid hT
  clear hT
  have hbo := fun o : Obj => (Below.refl w1.heap.size w1).alloc (Nat.le_refl _) o
  have hcells := shead_cells ((HA.out.below HB1.out).below (hbo (.cells #[.string T] 9)))
  have hz := HB1.out.size
  go_wp2_with (at_builtin; refine wpList_append_own _ rfl _ _ 24 rfl w1.heap.size 9 i0 (.string ⟨#[]⟩) 1 16 Tryd.underlying24 hi hz0 hz1 hz2 rfl (by decide) _ 1 [.string T] rfl (own_word w1 T) ⟨g, 0, none⟩ n c (ss.map Value.string) rfl (by rw [List.length_map, HA.out.1, Nat.mul_one]) hcells (str_one ss) (by unfold maxLen; omega) (by omega) (by simp) ?_)
  intro v2 w2 own2 hgrow _
  have HB2 : Hid (Below w.heap.size w w2) := (HB1.out.alloc HB1.out.size _).grown hgrow (by simp; omega) (fun k hk => by have := ((own_word w1 T).lt k hk).1; omega)
  have hl2 : (T :: ss).length = 1 + n := by rw [List.length_cons, HA.out.1]; omega
  have hjl : (Lib.join ((T :: ss).map (·.data.toList)) (⟨#[32]⟩ : ByteArray).data.toList) = T.data.toList ++ blankL ss := join_blank T.data.toList ss
  have hTl : T.data.toList.length = T.size := by rw [Array.length_toList]; rfl
  have hll : (T.data.toList ++ blankL ss).length ≤ 140737488355328 := by
    rw [List.length_append, blankL_len, HA.out.1, hTl]
    omega
  rcases own2.2 with ⟨_, h0⟩ | ⟨g2, cap, cur, rfl, hg2, hh2, hc2, _, _, _⟩
  · omega
  have HC := strings_Join g2 0 cap (T :: ss) ⟨#[32]⟩ w2 (fun j x hx => by
    have := own2.cells (g := g2) rfl j (.string x) (by
      show ((T :: ss).map Value.string)[j]? = _
      rw [List.getElem?_map, hx]
      rfl)
    rw [Nat.zero_add]
    rw [show (⟨g2, 0, none⟩ : Addr).add j = ⟨g2, j, none⟩ from by unfold Addr.add; split <;> simp_all] at this
    exact this) (Array.getElem?_eq_some_iff.1 hh2).1 (by omega) (by omega) (by rw [hjl]; exact hll)
  rw [hl2, hjl] at HC
  have HCC := Lib.hid HC
  have HE : Hid ((⟨(T.data.toList ++ blankL ss).toArray⟩ : ByteArray) = ⟨(namesL ss).toArray⟩) := by
    show _ = _
    unfold namesL
    rw [HTT.out, HA.out.1]
    try simp
  generalize (⟨(T.data.toList ++ blankL ss).toArray⟩ : ByteArray) = R at *
  clear HC own2 hgrow hjl hll hTl hl2 hcells hh2
  go_wp2_with fail
  refine HCC.out.mono ?_
  rintro e w3 ⟨rfl, hb3⟩
  have HB3 : Hid (Below w.heap.size w w3) := HB2.out.trans (hb3.mono HB2.out.size)
  clear hb3 HCC
  go_wp2
  go_ret
  exact ⟨by rw [← HE.out]; rfl, HB3.out⟩
end Go.Proofs.YtkkammbfomiofadDoor
