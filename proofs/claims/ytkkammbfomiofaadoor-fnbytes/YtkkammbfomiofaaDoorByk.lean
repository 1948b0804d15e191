/-
  What is read back of an inode's, a table's and a header's bytes, as calls.
-/
import Derived.Test.YtkkammbfomiofaaDoorEfx
import Derived.Test.YtkkammbfomiofaaDoorGf
import Derived.Test.YtkkammbfomiofaaDoorTbr
import Derived.Test.YtkkammbfomiofaaDoorCbj
import Derived.Test.YtkkammbfomiofaaDoorCbt
namespace Go.Proofs.YtkkammbfomiofaaDoor
open Go.RowKit
set_option linter.unusedSimpArgs false
set_option linter.unusedVariables false

theorem inode_back {nm : ByteArray} {z : Int} {cs : List Int} (h : inoB nm z cs = true) (a : Option Addr) (v : World) (hv : IRow .u8 v a 64 (inoL nm z cs)) :
    Calls Tryd.prog 7 #[.slice a 64 64] v fun e w' => ∃ a' c', e = .returned (.agg #[.bool true, .string nm, .int .i64 z, .slice a' cs.length c']) ∧ Row .i64 (fun g => v.heap.size ≤ g ∧ g < w'.heap.size) w' a' cs.length cs ∧ Below v.heap.size v w' := by
  obtain ⟨e1, e2, e3, e4, e5⟩ := ino_round h
  have hB : Byt (inoL nm z cs) := by have := encI_byt nm z cs; unfold encI at this; rw [if_pos h] at this; exact this
  refine (decodeInode_r a 64 64 (inoL nm z cs) v hv hB (Nat.le_refl _) (by omega)).mono ?_
  rintro e w' ⟨hb, a', c', rfl, hr⟩
  have d1 : dN (inoL nm z cs) = nm := by unfold dN; rw [if_pos e5, e1]
  have d2 : dZ (inoL nm z cs) = z := by unfold dZ; rw [if_pos e5, e2]
  have d3 : dL (inoL nm z cs) = cs := by unfold dL; rw [if_pos e5, e4]
  rw [d3] at hr
  rw [d1, d2, d3, e5]
  exact ⟨a', c', rfl, hr, hb⟩
theorem table_back {es : List (Int × Bool)} (hl : es.length ≤ 1024) (hv : eAll es = true) (a : Option Addr) (n c : Nat) (v : World) (hr : IRow .u8 v a n (eBytes es)) (hb : Byt (eBytes es)) (hc : n ≤ c) (hm : c ≤ 9223372036854775807) :
    Calls Tryd.prog 11 #[.slice a n c] v fun e w' => ∃ a' c', e = .returned (.agg #[.bool true, .slice a' es.length c']) ∧ EOwn (fun g => v.heap.size ≤ g ∧ g < w'.heap.size) w' a' es.length es ∧ Below v.heap.size v w' := by
  obtain ⟨e1, e2⟩ := tab_round hl hv
  have hn := hr.1
  refine (decodeTable_any a n c (eBytes es) v hr (fun i hi => hb.at i (by omega)) hc hm).mono ?_
  rintro e w' ⟨a', c', rfl, ho, hw⟩
  rw [e2] at ho
  rw [e1, e2]
  exact ⟨a', c', rfl, ho, hw⟩
theorem eBytes_byt (es : List (Int × Bool)) : Byt (eBytes es) := by
  intro x hx
  simp only [eBytes, List.mem_flatMap] at hx
  obtain ⟨e, _, hx⟩ := hx
  exact beB_byt _ _ x hx
theorem header_back {s p q : Int} (h : hdrB s p q = true) (a : Option Addr) (v : World) (hv : IRow .u8 v a 64 (hdrL s p q)) :
    Calls Tryd.prog 15 #[.slice a 64 64] v fun e w' => e = .returned (.agg #[.bool true, .int .i64 s, .int .i64 p, .int .i64 q]) ∧ Below v.heap.size v w' := by
  have hB : Byt (hdrL s p q) := by
    intro x hx
    unfold hdrL at hx
    simp only [List.mem_append, List.mem_replicate] at hx
    rcases hx with hx | hx | hx | hx | hx
    · exact beB_byt _ _ x hx
    · exact beB_byt _ _ x hx
    · exact beB_byt _ _ x hx
    · omega
    · exact beB_byt _ _ x hx
  have := decodeHeader_impl a 64 64 (hdrL s p q) v hv hB (Nat.le_refl _) (by omega)
  rw [decV_hdr h] at this
  exact this
theorem owns_caps {w : World} {B n e sz : Nat} {a : Option Addr} {m c : Nat} {xs : List Value} (h : w.ownsRow B e sz (.slice a m c) n xs) : m = n ∧ n ≤ c ∧ c ≤ 9223372036854775807 := by
  rcases h.2 with ⟨h1, h0⟩ | ⟨g, cap, cur, h1, _, _, hc, hm, _, _⟩
  · injection h1 with _ h1 h2; omega
  · injection h1 with _ h1 h2; unfold maxLen at hm; omega
end Go.Proofs.YtkkammbfomiofaaDoor
