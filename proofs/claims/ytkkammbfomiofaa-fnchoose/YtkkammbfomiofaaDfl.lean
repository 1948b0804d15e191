/-
  Draws as functions: l1Fill.
-/
import Derived.Test.YtkkammbfomiofaaDsf
import Derived.Test.YtkkammbfomiofaaBar
namespace Go.Proofs.Ytkkammbfomiofaa
open Go.RowKit
set_option linter.unusedSimpArgs false
set_option linter.unusedVariables false

/-- The block that l1Fill draws, and the source behind it. -/
def SV.fill (s : SV) : List Int := (List.replicate 64 (1 + s.next 255)).set ((s.rest 255).next 64).toNat (((s.rest 255).rest 64).next 256)
def SV.fillS (s : SV) : SV := ((s.rest 255).rest 64).rest 256

set_option maxHeartbeats 4000000 in
set_option maxRecDepth 100000 in
theorem l1Fill_any (B N : Nat) (s : SV) (w : World) (h : SrcF w B N s) (hN : N ≤ w.heap.size) :
    Calls Try.prog 36 #[.pointer (some ⟨B, 0, none⟩)] w fun e w' => ∃ a c, e = .returned (.slice a 64 c) ∧ w'.ownsRow w.heap.size 5 1 (.slice a 64 c) 64 (u8s s.fill) ∧ SrcF w' B N s.fillS ∧ Kept (fun g => g = B) w w' := by
  obtain ⟨i0, hi, hz0, hz1, hz2⟩ := info_parts info5
  have hBl := h.lt
  go_enter Try.func36, Try.ntmps36
  go_wp2_with fail
  refine (l1NextF_any B N 255 s _ h (by omega) (by omega)).mono ?_
  rintro e w1 ⟨rfl, hs1, hk1⟩
  obtain ⟨b0, b1⟩ := SV.next_range (s := s) (m := 255) (by omega)
  have c0 : 0 ≤ 1 + s.next 255 := by omega
  have c1 : 1 + s.next 255 ≤ 255 := by omega
  have HS1 : Hid (SrcF w1 B N (s.rest 255)) := hs1
  have HK1 : Hid (Kept (fun g => g = B) w w1) := hk1
  have HSZ : Hid (w.heap.size ≤ w1.heap.size) := hk1.size
  have HE : Hid ((w1.alloc (Obj.cells #[] 5)).ownsRow w1.heap.size 5 1 (.slice (some ⟨w1.heap.size, 0, none⟩) 0 0) 0 (u8s (List.replicate 0 (1 + s.next 255)))) := World.ownsRow_made w1 #[] 0 (Nat.le_refl _) (Nat.zero_le _) rfl
  have HBE : Hid (Below w1.heap.size w1 (w1.alloc (Obj.cells #[] 5))) := (Below.refl _ w1).alloc (Nat.le_refl _) _
  obtain ⟨x, hx⟩ : ∃ x, s.next 255 = x := ⟨_, rfl⟩
  rw [hx] at b0 b1 c0 c1 HE ⊢
  have HXX : Hid (s.next 255 = x) := hx
  clear h hs1 hk1 hx
  go_wp2
  go_loopw [4, 5] (fun o i wr => ∃ (k : Nat) (ad : Option Addr) (c : Nat), k ≤ 64 ∧ o = .slice ad k c ∧ i = .int .i64 k ∧ Hid (wr.ownsRow w1.heap.size 5 1 (.slice ad k c) k (u8s (List.replicate k (1 + x)))) ∧ Hid (Below w1.heap.size w1 wr)) (fun _ i _ => 64 - (intOf i).toNat)
  case atStart => exact ⟨0, _, _, Nat.zero_le _, rfl, rfl, HE, HBE⟩
  case round =>
    obtain ⟨k, ad, c, hk, rfl, rfl, ho, hbl⟩ := hrel
    clear HE HBE
    by_cases hlt : k < 64
    · have hsz := hbl.out.size
      have hrow := ho.out
      have HSS : Hid (u8s (List.replicate (k + 1) (1 + x)) = u8s (List.replicate k (1 + x)) ++ [.int .u8 (1 + x)]) := by show _ = _; rw [List.replicate_succ', u8s, List.map_append]; rfl
      go_wp2_with (at_builtin; refine wpList_append_own _ rfl _ _ 22 rfl w1.heap.size 5 i0 (.int .u8 0) 1 1 Try.underlying22 hi hz0 hz1 hz2 rfl (by decide) _ _ _ rfl (hrow.alloc _) ⟨wr.heap.size, 0, none⟩ 1 1 [.int .u8 (1 + x)] rfl rfl one_cell (one_u8 _) (by unfold maxLen; omega) (by omega) (by simp; omega) ?_)
      intro s' w3 hown3 hgrow _
      have hb3 : Hid (Below w1.heap.size w1 w3) := (hbl.out.alloc hsz _).grown hgrow (by simp; omega) (fun q hq => (hrow.lt q hq).1)
      have ho3 : w3.ownsRow w1.heap.size 5 1 s' (k + 1) (u8s (List.replicate (k + 1) (1 + x))) := by rw [HSS.out]; simpa using hown3
      obtain ⟨ad', c', rfl⟩ := owns_shape ho3
      have HO3 : Hid (w3.ownsRow w1.heap.size 5 1 (.slice ad' (k + 1) c') (k + 1) (u8s (List.replicate (k + 1) (1 + x)))) := ho3
      clear hown3 hgrow ho3 hrow HSS
      go_wp2
      go_roundw
      case rel => exact ⟨k + 1, ad', c', by omega, rfl, by go_num, HO3, hb3⟩
      case measure => simp [intOf]; omega
    · obtain rfl : k = 64 := by omega
      obtain ⟨g, rfl, hcap, _⟩ := owns_range ho.out 0 0 (by omega)
      have gB : B ≠ g := by have h1 := (ho.out.lt g rfl).1; have h2 := HS1.out.lt; have h3 := HK1.out.size; omega
      have hnB : ∀ g', (Value.slice (some ⟨g, 0, none⟩) 64 c).ownBlock = some g' → ¬ g' = B := fun g' hg' e => by
        simp only [Value.ownBlock, Option.some.injEq] at hg'
        exact gB (e.symm.trans hg'.symm)
      have HNB : Hid (∀ g', (Value.slice (some ⟨g, 0, none⟩) 64 c).ownBlock = some g' → ¬ g' = B) := hnB
      have HKW : Hid (Kept (fun g => g = B) w wr) := HK1.out.trans (Kept.of_below hbl.out _)
      clear hnB
      go_wp2_with fail
      refine (l1NextF_any B N 64 _ _ (HS1.out.below hbl.out) (by omega) (by omega)).mono ?_
      rintro e w4 ⟨rfl, hs4, hk4⟩
      obtain ⟨y0, y1⟩ := SV.next_range (s := s.rest 255) (m := 64) (by omega)
      obtain ⟨y, hy⟩ : ∃ y, (s.rest 255).next 64 = y := ⟨_, rfl⟩
      rw [hy] at y0 y1 ⊢
      have HY : Hid ((s.rest 255).next 64 = y) := hy
      have HO4 : Hid (w4.ownsRow w1.heap.size 5 1 (.slice (some ⟨g, 0, none⟩) 64 c) 64 (u8s (List.replicate 64 (1 + x)))) := row_kept ho.out hk4 HNB.out
      have HK4 : Hid (Kept (fun g => g = B) w w4) := HKW.out.trans hk4
      have HS4 : Hid (SrcF w4 B N ((s.rest 255).rest 64)) := hs4
      clear hs4 hk4 hy ho hbl HS1 HK1 HKW
      go_wp2_with fail
      refine (l1NextF_any B N 256 _ _ HS4.out (by omega) (by omega)).mono ?_
      rintro e w5 ⟨rfl, hs5, hk5⟩
      obtain ⟨z0, z1⟩ := SV.next_range (s := (s.rest 255).rest 64) (m := 256) (by omega)
      obtain ⟨z, hz⟩ : ∃ z, ((s.rest 255).rest 64).next 256 = z := ⟨_, rfl⟩
      rw [hz] at z0 z1 ⊢
      obtain ⟨Y, rfl⟩ : ∃ Y : Nat, y = (Y : Int) := ⟨y.toNat, by omega⟩
      have ho5 := row_kept HO4.out hk5 HNB.out
      have HK5 : Hid (Kept (fun g => g = B) w w5) := HK4.out.trans hk5
      have cY : w5.cell? ⟨g, Y, none⟩ = some (.int .u8 (1 + x)) := by
        obtain ⟨g', e', _, rng⟩ := owns_range ho5 Y 1 (by omega)
        injection e' with e'
        injection e' with e'
        subst e'
        have := rng 0 (.int .u8 (1 + x)) (by simp only [u8s, List.map_replicate, List.getElem?_take, List.getElem?_drop, List.getElem?_replicate]; rw [if_pos (by omega), if_pos (by omega)])
        simpa using this
      have fY : w5.frozen? ⟨g, Y, none⟩ = false := by
        obtain ⟨cur, hc⟩ := owns_tag ho5 (g := g) rfl
        simp [World.frozen?, hc]
      have hst : (w5.setCells g Y [.int .u8 z]).ownsRow w1.heap.size 5 1 (.slice (some ⟨g, 0, none⟩) 64 c) 64 (spl (u8s (List.replicate 64 (1 + x))) Y [.int .u8 z]) := owns_setCells ho5 Y (by simp; omega)
      have efill : spl (u8s (List.replicate 64 (1 + x))) Y [.int .u8 z] = u8s s.fill := by
        unfold SV.fill
        rw [HXX.out, HY.out, hz]
        simp only [Int.toNat_natCast, u8s, List.map_set]
        rw [List.set_eq_take_append_cons_drop, if_pos (by simp; omega)]
        simp [spl]
      rw [efill] at hst
      have HST : Hid ((w5.setCell ⟨g, Y, none⟩ (.int .u8 z)).ownsRow w1.heap.size 5 1 (.slice (some ⟨g, 0, none⟩) 64 c) 64 (u8s s.fill)) := hst
      have HG : Hid (w1.heap.size ≤ g) := (ho5.lt g rfl).1
      have kk : Kept (fun x => x = g) w5 (w5.setCell ⟨g, Y, none⟩ (.int .u8 z)) := Kept.setCell w5 ⟨g, Y, none⟩ _ _ rfl
      have HS5 : Hid (SrcF (w5.setCell ⟨g, Y, none⟩ (.int .u8 z)) B N s.fillS) := hs5.kept kk gB (fun g' hg' e => by have h1 := HG.out; have h2 := HSZ.out; omega)
      clear ho5 hst efill hs5 hk5 HO4 HK4 HS4 kk
      have HKF : Hid (Kept (fun g => g = B) w (w5.setCell ⟨g, Y, none⟩ (.int .u8 z))) := by
        have hk := HK5.out
        have h1 := HG.out
        have h2 := HSZ.out
        refine ⟨hk.1, hk.2, hk.3, by simpa using hk.size, fun j hj hjB => ?_⟩
        have : j ≠ g := by omega
        exact (by simp [World.setCell, Array.getElem?_modify, Ne.symm this] : (w5.setCell ⟨g, Y, none⟩ (.int .u8 z)).heap[j]? = w5.heap[j]?).trans (hk.block j hj hjB)
      have HOW : Hid ((w5.setCell ⟨g, Y, none⟩ (.int .u8 z)).ownsRow w.heap.size 5 1 (.slice (some ⟨g, 0, none⟩) 64 c) 64 (u8s s.fill)) := by
        have h2 := HSZ.out
        refine ⟨HST.out.1, HST.out.2.imp id ?_⟩
        rintro ⟨g', cap, cur, e, hg, r⟩
        exact ⟨g', cap, cur, e, Nat.le_trans h2 hg, r⟩
      go_wp2
      go_ret
      exact ⟨_, _, rfl, HOW.out, HS5.out, HKF.out⟩
end Go.Proofs.Ytkkammbfomiofaa
