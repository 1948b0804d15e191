/-
  FnExactFormatAnswer: its arguments read.
-/
import Derived.Test.YtkkammbfomiofadDoorFll
import Derived.ProofKit
import Derived.OpenShut
import Derived.ChangeArms
import Derived.SliceStrings
import Derived.LaidSub
import Derived.MakeChecks
import Derived.Lib.LaidTab
import Derived.Lib.SmallJoins
namespace Go.Proofs.YtkkammbfomiofadDoor
open Go.ChangeShapes Go.WideShapes Go.ChangeAt Go.RowKit Go.Joins
set_option linter.unusedSimpArgs false
set_option linter.unusedVariables false

theorem cells9 : Tryd.prog.cellsOf 9 = 1 := by kernel_rfl
theorem cells2 : Tryd.prog.cellsOf 2 = 1 := by kernel_rfl
theorem cells24 : Tryd.prog.cellsOf 24 = 1 := by kernel_rfl
theorem cells26 : Tryd.prog.cellsOf 26 = 5 := by kernel_rfl
theorem cells23 : Tryd.prog.cellsOf 23 = 4 := by kernel_rfl
theorem cells28 : Tryd.prog.cellsOf 28 = 9 := by kernel_rfl
theorem array9 {cs : Array Value} (h : cs.size = 9) : ∃ x0 x1 x2 x3 x4 x5 x6 x7 x8, cs = #[x0, x1, x2, x3, x4, x5, x6, x7, x8] := by
  rcases cs with ⟨l⟩
  match l, h with
  | [x0, x1, x2, x3, x4, x5, x6, x7, x8], _ => exact ⟨x0, x1, x2, x3, x4, x5, x6, x7, x8, rfl⟩
theorem list5 {α : Type} {xs : List α} (h : xs.length = 5) : ∃ y0 y1 y2 y3 y4, xs = [y0, y1, y2, y3, y4] := by
  match xs, h with
  | [y0, y1, y2, y3, y4], _ => exact ⟨y0, y1, y2, y3, y4, rfl⟩
theorem wf_i64 {n : Int} (h : (Lit.int .i64 n).wf = true) : I64 n := by
  have a1 : IntKind.i64.min = -9223372036854775808 := rfl
  have a2 : IntKind.i64.max = 9223372036854775807 := rfl
  simp only [Lit.wf, Bool.and_eq_true, decide_eq_true_eq] at h
  unfold I64
  omega
theorem spot_zeroF {w : World} {x : Addr} {v : Value} (h : w.cell? (x.add 0) = some v) : x.spot = none := by
  have e : x.add 0 = x := by simp [Addr.add]
  rw [e] at h; exact World.cell?_spot h
theorem add_someF {w : World} {x : Addr} {i : Nat} {v : Value} (h : w.cell? (x.add i) = some v) : w.cell? ⟨x.block, x.off + i, none⟩ = some v := by
  obtain ⟨b, off, spot⟩ := x
  by_cases hi : i = 0
  · subst hi
    have := spot_zeroF h
    simp only at this
    subst this
    simpa [Addr.add] using h
  · simpa [Addr.add, hi] using h
section
variable {H : Type} {enc : TypeId × Value → H} {W : World}
theorem open_names {fuel : Nat} {cs : List Value} {x : DataW H × List MemPlace} (h : DataW.trod enc Tryd.prog W 0 (fun _ => true) true fuel 24 cs = some x) :
    ∃ a n c ss, cs = [.slice a n c] ∧ (n : Int) ≤ 9223372036854775807 ∧ SRow W a n ss ∧ ∀ i, i < n → (sAt ss i).size ≤ 9223372036854775807 := by
  rcases open_strings Tryd.underlying24 Tryd.underlying9 cells9 h with ⟨hcs, _⟩ | ⟨y, l, c, zs, hcs, _, hl, hm, hz, _, hcell, hwz⟩
  · exact ⟨none, 0, 0, [], hcs, by omega, ⟨rfl, .inl rfl⟩, fun i hi => by omega⟩
  · unfold maxLen at hm hwz
    simp only [if_true] at hz
    have hat : ∀ i, i < l → sAt (zs.take l) i = zs.getD i ByteArray.empty := fun i hi => by
      unfold sAt
      rw [List.getElem?_take, if_pos hi, List.getD]
      rw [List.getElem?_eq_getElem (by omega)]
      rfl
    refine ⟨some y, l, c, zs.take l, hcs, by omega, ⟨by simp; omega, ?_⟩, fun i hi => ?_⟩
    · by_cases h0 : l = 0
      · exact .inl h0
      · have hs := spot_zeroF (hcell 0 (by omega))
        refine .inr ⟨y.block, y.off, ?_, fun i hi => ?_⟩
        · obtain ⟨b, off, spot⟩ := y; simp only at hs; rw [hs]
        · rw [add_someF (hcell i (by omega)), hat i hi]
    · rw [hat i hi, List.getD, List.getElem?_eq_getElem (by omega)]
      exact hwz _ (List.getElem_mem _)
theorem open_call {r : Reach} {b0 : Nat} {v : Value} {d : DataW H} {p : List MemPlace} (hv : Value.okWide Tryd.prog W r b0 23 v) (h : DataW.Trod enc Tryd.prog W 0 (fun _ => true) true 23 v d p) :
    ∃ kind nm cd size, v = .agg #[.int .i64 kind, .string nm, .string cd, .int .i64 size] ∧ nm.size ≤ 9223372036854775807 ∧ cd.size ≤ 9223372036854775807 := by
  obtain ⟨c0, c1, c2, c3, y0, y1, y2, y3, fm, rfl, _, _, h0, h1, h2, h3⟩ := open_agg4 Tryd.underlying23 (by kernel_rfl) cells23 hv h
  obtain ⟨k, g0, _, _⟩ := DataW.trod_int Tryd.underlying2 h0
  obtain ⟨nm, g1, _, m1⟩ := DataW.trod_string Tryd.underlying9 h1
  obtain ⟨cd, g2, _, m2⟩ := DataW.trod_string Tryd.underlying9 h2
  obtain ⟨z, g3, _, _⟩ := DataW.trod_int Tryd.underlying2 h3
  unfold maxLen at m1 m2
  injection g0 with g0 _; injection g1 with g1 _; injection g2 with g2 _; injection g3 with g3 _
  subst g0; subst g1; subst g2; subst g3
  exact ⟨k, nm, cd, z, rfl, by omega, by omega⟩
theorem open_answer {r : Reach} {b0 : Nat} {v : Value} {d : DataW H} {p : List MemPlace} (hv : Value.okWide Tryd.prog W r b0 28 v) (h : DataW.Trod enc Tryd.prog W 0 (fun _ => true) true 28 v d p) :
    ∃ code dd a n ca ss num s0 s1 s2 s3 s4, v = .agg #[.int .i64 code, .string dd, .slice a n ca, .int .i64 num, .int .i64 s0, .int .i64 s1, .int .i64 s2, .int .i64 s3, .int .i64 s4] ∧ dd.size ≤ 9223372036854775807 ∧ (n : Int) ≤ 9223372036854775807 ∧ SRow W a n ss ∧ (∀ i, i < n → (sAt ss i).size ≤ 9223372036854775807) ∧
      I64 code ∧ I64 num ∧ I64 s0 ∧ I64 s1 ∧ I64 s2 ∧ I64 s3 ∧ I64 s4 := by
  obtain ⟨cs, rfl, hsz⟩ := okWide_struct Tryd.underlying28 hv
  obtain ⟨x0, x1, x2, x3, x4, x5, x6, x7, x8, rfl⟩ := array9 (hsz.trans cells28)
  obtain ⟨fuel, hf⟩ := h
  obtain ⟨xs, n, _, hx, hl, hxl, hall⟩ := DataW.trod_struct Tryd.underlying28 hf
  obtain ⟨y0, y1, y2, y3, y4, rfl⟩ := list5 hxl
  have e0 : DataW.trod enc Tryd.prog W 0 (fun _ => true) true n 2 (List.take (Tryd.prog.cellsOf 2) (List.drop 0 [x0, x1, x2, x3, x4, x5, x6, x7, x8])) = [y0, y1, y2, y3, y4][0]? := hall 0 _ rfl
  rw [cells2] at e0
  have e1 : DataW.trod enc Tryd.prog W 0 (fun _ => true) true n 9 (List.take (Tryd.prog.cellsOf 9) (List.drop 1 [x0, x1, x2, x3, x4, x5, x6, x7, x8])) = [y0, y1, y2, y3, y4][1]? := hall 1 _ rfl
  rw [cells9] at e1
  have e2 : DataW.trod enc Tryd.prog W 0 (fun _ => true) true n 24 (List.take (Tryd.prog.cellsOf 24) (List.drop 2 [x0, x1, x2, x3, x4, x5, x6, x7, x8])) = [y0, y1, y2, y3, y4][2]? := hall 2 _ rfl
  rw [cells24] at e2
  have e3 : DataW.trod enc Tryd.prog W 0 (fun _ => true) true n 2 (List.take (Tryd.prog.cellsOf 2) (List.drop 3 [x0, x1, x2, x3, x4, x5, x6, x7, x8])) = [y0, y1, y2, y3, y4][3]? := hall 3 _ rfl
  rw [cells2] at e3
  have e4 : DataW.trod enc Tryd.prog W 0 (fun _ => true) true n 26 (List.take (Tryd.prog.cellsOf 26) (List.drop 4 [x0, x1, x2, x3, x4, x5, x6, x7, x8])) = [y0, y1, y2, y3, y4][4]? := hall 4 _ rfl
  rw [cells26] at e4
  obtain ⟨zs, m, _, hz, _, hzl, hst⟩ := DataW.trod_struct Tryd.underlying26 (show DataW.trod enc Tryd.prog W 0 (fun _ => true) true n 26 [x4, x5, x6, x7, x8] = some y4 from e4)
  obtain ⟨q0, q1, q2, q3, q4, rfl⟩ := list5 hzl
  have f0 : DataW.trod enc Tryd.prog W 0 (fun _ => true) true m 2 (List.take (Tryd.prog.cellsOf 2) (List.drop 0 [x4, x5, x6, x7, x8])) = [q0, q1, q2, q3, q4][0]? := hst 0 _ rfl
  rw [cells2] at f0
  have f1 : DataW.trod enc Tryd.prog W 0 (fun _ => true) true m 2 (List.take (Tryd.prog.cellsOf 2) (List.drop 1 [x4, x5, x6, x7, x8])) = [q0, q1, q2, q3, q4][1]? := hst 1 _ rfl
  rw [cells2] at f1
  have f2 : DataW.trod enc Tryd.prog W 0 (fun _ => true) true m 2 (List.take (Tryd.prog.cellsOf 2) (List.drop 2 [x4, x5, x6, x7, x8])) = [q0, q1, q2, q3, q4][2]? := hst 2 _ rfl
  rw [cells2] at f2
  have f3 : DataW.trod enc Tryd.prog W 0 (fun _ => true) true m 2 (List.take (Tryd.prog.cellsOf 2) (List.drop 3 [x4, x5, x6, x7, x8])) = [q0, q1, q2, q3, q4][3]? := hst 3 _ rfl
  rw [cells2] at f3
  have f4 : DataW.trod enc Tryd.prog W 0 (fun _ => true) true m 2 (List.take (Tryd.prog.cellsOf 2) (List.drop 4 [x4, x5, x6, x7, x8])) = [q0, q1, q2, q3, q4][4]? := hst 4 _ rfl
  rw [cells2] at f4
  obtain ⟨code, g0, _, w0⟩ := DataW.trod_int Tryd.underlying2 (show DataW.trod enc Tryd.prog W 0 (fun _ => true) true n 2 [x0] = some y0 from e0)
  obtain ⟨dd, g1, _, m1⟩ := DataW.trod_string Tryd.underlying9 (show DataW.trod enc Tryd.prog W 0 (fun _ => true) true n 9 [x1] = some y1 from e1)
  obtain ⟨a, l, ca, ss, g2, hn, hr, hzz⟩ := open_names (show DataW.trod enc Tryd.prog W 0 (fun _ => true) true n 24 [x2] = some y2 from e2)
  obtain ⟨num, g3, _, w3⟩ := DataW.trod_int Tryd.underlying2 (show DataW.trod enc Tryd.prog W 0 (fun _ => true) true n 2 [x3] = some y3 from e3)
  obtain ⟨s0, k0, _, v0⟩ := DataW.trod_int Tryd.underlying2 (show DataW.trod enc Tryd.prog W 0 (fun _ => true) true m 2 [x4] = some q0 from f0)
  obtain ⟨s1, k1, _, v1⟩ := DataW.trod_int Tryd.underlying2 (show DataW.trod enc Tryd.prog W 0 (fun _ => true) true m 2 [x5] = some q1 from f1)
  obtain ⟨s2, k2, _, v2⟩ := DataW.trod_int Tryd.underlying2 (show DataW.trod enc Tryd.prog W 0 (fun _ => true) true m 2 [x6] = some q2 from f2)
  obtain ⟨s3, k3, _, v3⟩ := DataW.trod_int Tryd.underlying2 (show DataW.trod enc Tryd.prog W 0 (fun _ => true) true m 2 [x7] = some q3 from f3)
  obtain ⟨s4, k4, _, v4⟩ := DataW.trod_int Tryd.underlying2 (show DataW.trod enc Tryd.prog W 0 (fun _ => true) true m 2 [x8] = some q4 from f4)
  unfold maxLen at m1
  injection g0 with g0 _; injection g1 with g1 _; injection g2 with g2 _; injection g3 with g3 _
  injection k0 with k0 _; injection k1 with k1 _; injection k2 with k2 _; injection k3 with k3 _; injection k4 with k4 _
  subst g0; subst g1; subst g2; subst g3; subst k0; subst k1; subst k2; subst k3; subst k4
  exact ⟨code, dd, a, l, ca, ss, num, s0, s1, s2, s3, s4, rfl, by omega, hn, hr, hzz, wf_i64 w0, wf_i64 w3, wf_i64 v0, wf_i64 v1, wf_i64 v2, wf_i64 v3, wf_i64 v4⟩
theorem tab_laid {laid : List (String × DataW Unit)} {W : World} (hp : (laid.all fun x => x.2.handleName?.isNone) = true) (hf : laid.filter (fun x => x.1 == "internal/strconv.uint64pow10") = [("internal/strconv.uint64pow10", Lib.tabData .u64 Lib.pow10Tab)]) (h : laidMetH Tryd.prog laid W) : Tab W := by
  rw [MakeChecks.laidMetH_plain _ _ _ hp] at h
  have h2 := laidMet.filter (fun x => x.1 == "internal/strconv.uint64pow10") h
  rw [hf] at h2
  exact Lib.tabIs_of_head (g := 0) (t := 79) (e := 65) (n := 20) (by kernel_rfl) (by kernel_rfl) Tryd.underlying79 Tryd.underlying65 (by kernel_rfl) (by kernel_rfl) h2
end
end Go.Proofs.YtkkammbfomiofadDoor
