/-
  Escapes.
-/
import Derived.Test.YtkkammbfomiofadDoorFai
namespace Go.Proofs.YtkkammbfomiofadDoor
open Go.RowKit
set_option linter.unusedSimpArgs false
set_option linter.unusedVariables false

/-- A byte as it is told. -/
def hexB (d : Nat) : UInt8 := UInt8.ofNat (if d < 10 then 48 + d else 55 + d)
def plainB (b : UInt8) : Bool := decide (33 ≤ b.toNat) && (decide (b.toNat ≤ 126) && decide (b.toNat ≠ 37))
def escB (b : UInt8) : List UInt8 := if plainB b then [b] else [37, hexB (b.toNat / 16), hexB (b.toNat % 16)]
def escL (l : List UInt8) : List UInt8 := l.flatMap escB
theorem escL_succ (l : List UInt8) (k : Nat) (h : k < l.length) : escL (l.take (k + 1)) = escL (l.take k) ++ escB l[k] := by
  rw [List.take_succ_eq_append_getElem h]
  unfold escL
  rw [List.flatMap_append]
  simp only [List.flatMap_cons, List.flatMap_nil, List.append_nil]
theorem escB_len (b : UInt8) : (escB b).length ≤ 3 := by unfold escB; split <;> simp
theorem escL_len (l : List UInt8) : (escL l).length ≤ 3 * l.length := by
  induction l with
  | nil => simp [escL]
  | cons b l ih =>
    have := escB_len b
    simp only [escL, List.flatMap_cons, List.length_append, List.length_cons] at ih ⊢
    omega

theorem isFieldByte_any (b : UInt8) (w : World) :
    Calls Tryd.prog 27 #[.int .u8 b.toNat] w fun e w' => e = .returned (.bool (decide (33 ≤ b.toNat) && decide (b.toNat ≤ 126))) ∧ w' = w := by
  by_cases h1 : 33 ≤ b.toNat
  · by_cases h2 : b.toNat ≤ 126
    · go_enter Tryd.func27, Tryd.ntmps27
      go_wp2
      go_ret
      exact ⟨by rw [decide_eq_true h1, decide_eq_true h2]; simp; omega, rfl⟩
    · go_enter Tryd.func27, Tryd.ntmps27
      go_wp2
      go_ret
      exact ⟨by rw [decide_eq_true h1, decide_eq_false h2]; simp; omega, rfl⟩
  · go_enter Tryd.func27, Tryd.ntmps27
    go_wp2
    go_ret
    exact ⟨by first | rfl | (rw [decide_eq_false h1]; rfl), rfl⟩
theorem hexB_val (d : Nat) (hd : d < 16) : ((hexB d).toNat : Int) = if d < 10 then 48 + (d : Int) else 55 + (d : Int) := by
  unfold hexB
  split <;> simp <;> omega
theorem hex_any (d : Nat) (hd : d < 16) (w : World) :
    Calls Tryd.prog 22 #[.int .u8 (d : Int)] w fun e w' => e = .returned (.int .u8 (hexB d).toNat) ∧ w' = w := by
  have HV := Lib.hid (hexB_val d hd)
  by_cases h : d < 10
  · go_enter Tryd.func22, Tryd.ntmps22
    go_wp2
    go_ret
    exact ⟨by rw [HV.out, if_pos h]; rfl, rfl⟩
  · go_enter Tryd.func22, Tryd.ntmps22
    go_wp2
    go_ret
    refine ⟨?_, rfl⟩
    rw [HV.out, if_neg h]
    simp
    omega
theorem hexI (X : Int) (d : Nat) (hX : X = d) (hd : d < 16) (w : World) :
    Calls Tryd.prog 22 #[.int .u8 X] w fun e w' => e = .returned (.int .u8 (hexB d).toNat) ∧ w' = w := by
  subst hX; exact hex_any d hd w
theorem three_bytes {w : World} {a b c : UInt8} {x : Int} {t : TypeId} (hx : x = (a.toNat : Int)) : ∀ j u', (Lib.byteCells [a, b, c])[j]? = some u' → (w.alloc (.cells #[.int .u8 x, .int .u8 b.toNat, .int .u8 c.toNat] t)).cell? ((⟨w.heap.size, 0, none⟩ : Addr).add j) = some u' := by
  subst hx
  intro j u' hj
  match j, hj with
  | 0, hj => simp [Lib.byteCells] at hj; subst hj; simp [Addr.add]
  | 1, hj => simp [Lib.byteCells] at hj; subst hj; simp [Addr.add]
  | 2, hj => simp [Lib.byteCells] at hj; subst hj; simp [Addr.add]
theorem byte_at (s : ByteArray) (k : Nat) (h : k < s.size) (h' : k < s.data.toList.length) : s.data.toList[k] = s[k] := by simp; rfl
theorem escB_plain {b : UInt8} (h1 : (33 : Int) ≤ (b.toNat : Int)) (h2 : (b.toNat : Int) ≤ 126) (h3 : (b.toNat : Int) ≠ 37) : escB b = [b] := by
  have : plainB b = true := by unfold plainB; simp; omega
  unfold escB; rw [if_pos this]
theorem escB_else {b : UInt8} (h : (b.toNat : Int) < 33 ∨ 126 < (b.toNat : Int) ∨ (b.toNat : Int) = 37) : escB b = [37, hexB (b.toNat / 16), hexB (b.toNat % 16)] := by
  have : plainB b = false := by
    unfold plainB
    by_cases h1 : 33 ≤ b.toNat
    · by_cases h2 : b.toNat ≤ 126
      · rw [decide_eq_false (p := b.toNat ≠ 37) (by omega)]; simp
      · rw [decide_eq_false h2]; simp
    · rw [decide_eq_false h1]; simp
  unfold escB; rw [this]; rfl
theorem step_M {P : Program} {ops : Array Oper} {o : Oper} {a : Act} {w : World} {K : Act → World → Prop} {Q : Exit → Act → World → Prop} {E : Prop}
    (hg : o.guard = none) (s x : Operand) (t : TypeId) (hop : o.op = Op.call { callee := Callee.builtin Builtin.append, args := #[s, x], argTypes := #[t, t] })
    (B : Nat) (e : TypeId) (i : TypeInfo) (ht : P.underlying t = some (.slice e)) (hi : P.info? e = some i) (hz : i.zero = some (.int .u8 0)) (hsize : i.size = 1) (hby : i.bytes = 1)
    (v : Value) (l : List UInt8) (hs : a.eval s = v) (hown : OwnM w B e v l) (ad : Addr) (n c : Nat) (m : List UInt8) (hx : a.eval x = .slice (some ad) n c) (hn : n = m.length) (hnews : ∀ j u, (Lib.byteCells m)[j]? = some u → w.cell? (ad.add j) = some u)
    (hlim : l.length + m.length ≤ 140737488355328) (hB : B ≤ w.heap.size)
    (hK : ∀ v' w', OwnM w' B e v' (l ++ m) → w.grownBy w' v.ownBlock → K (a.put o.dst v') w') :
    if Region.wanted o (yielded ops a.tmps) = true then Oper.wp P o a w K Q else E := by
  subst hn
  have hw : Region.wanted o (yielded ops a.tmps) = true := by simp [Region.wanted, hg]
  rw [if_pos hw]
  obtain ⟨v', w', hrun, r1, r2⟩ := append_M (P := P) w B t o.type e i ht hi hz hsize hby v l hown ad c m hnews hlim hB
  unfold Oper.wp
  simp [execOp, hop, resolve, invoke, builtin, hs, hx, hrun, Result.andThen]
  exact hK v' w' r1 r2
theorem ownM_nil (w : World) (B : Nat) (hB : B ≤ w.heap.size) : OwnM (w.alloc (.cells #[] 5)) B 5 (.slice (some ⟨w.heap.size, 0, none⟩) 0 0) [] :=
  ⟨w.heap.size, 0, #[], (0, 0), rfl, hB, heap_alloc_new w _, .inl rfl, Nat.le_refl _, by unfold maxLen; omega, rfl, rfl⟩

set_option maxHeartbeats 6400000 in
set_option maxRecDepth 100000 in
theorem escape_spec (s : ByteArray) (hs : s.size ≤ 1048576) (w : World) :
    Calls Tryd.prog 13 #[.string s] w fun e w' => e = .returned (.string ⟨(escL s.data.toList).toArray⟩) ∧ Below w.heap.size w w' := by
  obtain ⟨i0, hi, hz0, hz1, hz2⟩ := info_parts infoB
  have HSL : Hid (s.data.toList.length = s.size) := by show _ = _; rw [Array.length_toList]; rfl
  go_enter Tryd.func13, Tryd.ntmps13
  go_wp2_with fail
  go_loopw [3, 4] (fun v i wr => ∃ k : Nat, k ≤ s.size ∧ i = .int .i64 k ∧ Hid (OwnM wr w.heap.size 5 v (escL (s.data.toList.take k)) ∧ Below w.heap.size w wr)) (fun _ i _ => s.size - (intOf i).toNat)
  case atStart => exact ⟨0, Nat.zero_le _, rfl, ownM_nil w _ (Nat.le_refl _), (Below.refl _ _).alloc (Nat.le_refl _) _⟩
  case round =>
    obtain ⟨k, hk, rfl, HR⟩ := hrel
    by_cases hlt : k < s.size
    · have hlt' : (k : Int) < (s.size : Int) := by omega
      have h0' : (0 : Int) ≤ (k : Int) := by omega
      have HS := Lib.hid (escL_succ s.data.toList k (by rw [HSL.out]; exact hlt))
      have HLE := Lib.hid (show (escL (s.data.toList.take k)).length ≤ 3 * k from Nat.le_trans (escL_len _) (by rw [List.length_take]; omega))
      have HBY := Lib.hid (byte_at s k hlt (by rw [HSL.out]; exact hlt))
      have own := HR.out.1
      have hbr := HR.out.2
      have hwz := hbr.size
      clear HR
      by_cases h1 : (33 : Int) ≤ (s[k].toNat : Int)
      case' neg =>
        have HEB := Lib.hid (escB_else (b := s[k]) (.inl (by omega)))
        go_wp2_with fail
        clear h1
      case' pos =>
        by_cases h2 : (s[k].toNat : Int) ≤ 126
        case' neg =>
          have HEB := Lib.hid (escB_else (b := s[k]) (.inr (.inl (by omega))))
          go_wp2_with fail
          clear h1 h2
        case' pos =>
          by_cases h3 : (s[k].toNat : Int) = 37
          case' pos =>
            have HEB := Lib.hid (escB_else (b := s[k]) (.inr (.inr h3)))
            have h3' : ((s[k].toNat : Int) != 37) = false := by simpa using h3
            clear h3
            go_wp2_with fail
            clear h1 h2 h3'
          case neg =>
            have HEB := Lib.hid (escB_plain h1 h2 h3)
            have h3' : ((s[k].toNat : Int) != 37) = true := by simpa using h3
            clear h3
            go_wp2_with (at_builtin; refine wpList_M _ rfl _ _ 44 rfl w.heap.size 5 i0 Tryd.underlying44 hi hz0 hz1 hz2 _ _ rfl (own.alloc _) ⟨wr.heap.size, 0, none⟩ 1 1 [s[k]] rfl rfl (one_byte rfl) (by have := HLE.out; simp only [List.length_cons, List.length_nil]; omega) (by simp; omega) ?_)
            intro v2 w2 own2 hgrow
            have HR2 : Hid (OwnM w2 w.heap.size 5 v2 (escL (s.data.toList.take (k + 1))) ∧ Below w.heap.size w w2) := by
              refine ⟨?_, Below.grownM (hbr.alloc hwz _) (by simp; omega) hgrow (own.alloc _)⟩
              rw [HS.out, HBY.out, HEB.out]
              exact own2
            clear own own2 hgrow hbr HEB HS HLE
            go_wp2
            go_roundw
            case rel => exact ⟨k + 1, by omega, by go_num, HR2⟩
            case measure => simp [intOf]; omega
      all_goals
        have hq : s[k].toNat / 16 < 16 := by have := s[k].toNat_lt; omega
        have hr : s[k].toNat % 16 < 16 := by omega
        have HC1 := Lib.hid (fun W => hexI ((s[k].toNat : Int) / 16) (s[k].toNat / 16) (by omega) hq W)
        have HC2 := Lib.hid (fun W => hexI ((s[k].toNat : Int) % 16) (s[k].toNat % 16) (by omega) hr W)
        refine wp_region_any (by kernel_rfl) ?_
        change wpAny _ _ _ _ _ _ _ (World.drew _)
        refine wpAny_take (i := 0) (v := u3) rfl (by kernel_rfl) (by kernel_rfl) (by kernel_rfl) (fun _ _ _ h => h) (Or.inl ⟨rfl, fun W => by go_simp⟩) ?_
        refine wpAny_take (i := 1) (v := .string s) rfl (by kernel_rfl) (by kernel_rfl) (by kernel_rfl) (fun _ _ _ h => h) (Or.inl ⟨rfl, fun W => by go_simp⟩) ?_
        refine wpAny_take (i := 2) (v := .int .i64 k) rfl (by kernel_rfl) (by kernel_rfl) (by kernel_rfl) (fun _ _ _ h => h) (Or.inl ⟨rfl, fun W => by go_simp⟩) ?_
        refine wpAny_take (i := 3) (v := .int .u8 (s[k].toNat : Int)) rfl (by kernel_rfl) (by kernel_rfl) (by kernel_rfl) (fun _ _ _ h => h) (Or.inl ⟨rfl, fun W => by go_simp; try simp [hlt]⟩) ?_
        refine wpAny_take (i := 4) (v := .int .u8 ((s[k].toNat : Int) / 16)) rfl (by kernel_rfl) (by kernel_rfl) (by kernel_rfl) (fun _ _ _ h => h) (Or.inl ⟨rfl, fun W => by go_simp; try first | omega | (simp [IntKind.wrap, IntKind.signed, IntKind.bits]; omega)⟩) ?_
        refine wpAny_take (i := 6) (v := .string s) rfl (by kernel_rfl) (by kernel_rfl) (by kernel_rfl) (fun _ _ _ h => h) (Or.inl ⟨rfl, fun W => by go_simp⟩) ?_
        refine wpAny_take (i := 7) (v := .int .i64 k) rfl (by kernel_rfl) (by kernel_rfl) (by kernel_rfl) (fun _ _ _ h => h) (Or.inl ⟨rfl, fun W => by go_simp⟩) ?_
        refine wpAny_take (i := 8) (v := .int .u8 (s[k].toNat : Int)) rfl (by kernel_rfl) (by kernel_rfl) (by kernel_rfl) (fun _ _ _ h => h) (Or.inl ⟨rfl, fun W => by go_simp; try simp [hlt]⟩) ?_
        refine wpAny_take (i := 9) (v := .int .u8 ((s[k].toNat : Int) % 16)) rfl (by kernel_rfl) (by kernel_rfl) (by kernel_rfl) (fun _ _ _ h => h) (Or.inl ⟨rfl, fun W => by go_simp; try first | omega | exact Int.tmod_eq_emod_of_nonneg (by omega)⟩) ?_
        refine wpAny_ready (rs := [5]) (by kernel_rfl) (by simp) ?_
        refine AllReady.cons rfl (fun K hK => ?_) AllReady.nil
        go_simp
        refine (HC1.out _).mono ?_
        rintro e w' ⟨rfl, hw'⟩
        have hw' := hw'.symm
        subst hw'
        go_simp
        refine hK _ _ ?_
        clear hK K
        refine wpAny_ready (rs := [10]) (by kernel_rfl) (by simp) ?_
        refine AllReady.cons rfl (fun K hK => ?_) AllReady.nil
        go_simp
        refine (HC2.out _).mono ?_
        rintro e w' ⟨rfl, hw'⟩
        have hw' := hw'.symm
        subst hw'
        go_simp
        refine hK _ _ ?_
        clear hK K
        refine wpAny_ready (rs := [11]) (by kernel_rfl) (by simp) ?_
        refine AllReady.cons rfl (fun K hK => ?_) AllReady.nil
        go_simp
        refine hK _ _ ?_
        clear hK K
        refine wpAny_ready (rs := [12]) (by kernel_rfl) (by simp) ?_
        refine AllReady.cons rfl (fun K hK => ?_) AllReady.nil
        have hown3 : OwnM (wr.alloc (.cells #[.int .u8 37, .int .u8 (hexB (s[k].toNat / 16)).toNat, .int .u8 (hexB (s[k].toNat % 16)).toNat] 5)).drew w.heap.size 5 u3 (escL (s.data.toList.take k)) := own.alloc _
        have hcl3 : ∀ j u', (Lib.byteCells [37, hexB (s[k].toNat / 16), hexB (s[k].toNat % 16)])[j]? = some u' → (wr.alloc (.cells #[.int .u8 37, .int .u8 (hexB (s[k].toNat / 16)).toNat, .int .u8 (hexB (s[k].toNat % 16)).toNat] 5)).drew.cell? ((⟨wr.heap.size, 0, none⟩ : Addr).add j) = some u' := fun j u' h => three_bytes (w := wr) (a := 37) (t := 5) rfl j u' h
        have hsz3 : w.heap.size ≤ (wr.alloc (.cells #[.int .u8 37, .int .u8 (hexB (s[k].toNat / 16)).toNat, .int .u8 (hexB (s[k].toNat % 16)).toNat] 5)).drew.heap.size := by simp; omega
        refine step_M rfl (.tmp 34) (.tmp 45) 44 rfl w.heap.size 5 i0 Tryd.underlying44 hi hz0 hz1 hz2 u3 (escL (s.data.toList.take k)) rfl hown3 ⟨wr.heap.size, 0, none⟩ 3 3 [37, hexB (s[k].toNat / 16), hexB (s[k].toNat % 16)] rfl rfl hcl3 (by have := HLE.out; simp only [List.length_cons, List.length_nil]; omega) hsz3 ?_
        intro v2 w2 own2 hgrow
        have HR2 : Hid (OwnM w2 w.heap.size 5 v2 (escL (s.data.toList.take (k + 1))) ∧ Below w.heap.size w w2) := by
          refine ⟨?_, Below.grownM ((hbr.alloc hwz _).drew) hsz3 hgrow hown3⟩
          rw [HS.out, HBY.out, HEB.out]
          exact own2
        clear own own2 hgrow hbr HEB HS HLE hown3 hcl3 hsz3
        refine hK _ _ ?_
        clear hK K
        refine wpAny_ready (rs := [13]) (by kernel_rfl) (by simp) ?_
        refine AllReady.cons rfl (fun K hK => ?_) AllReady.nil
        go_simp
        refine hK _ _ ?_
        clear hK K
        refine wpAny_done (by kernel_rfl) ?_ _
        go_wp2
        go_roundw
        case rel => exact ⟨k + 1, by omega, by go_num, HR2⟩
        case measure => simp [intOf]; omega
    · obtain hk' : k = s.size := by omega
      have own := HR.out.1
      rw [List.take_of_length_le (by rw [HSL.out]; omega)] at own
      have hcb := conv_back_M (P := Tryd.prog) wr own 44 9 Tryd.underlying44 Tryd.underlying5 Tryd.underlying9
      have HB := Lib.hid HR.out.2
      clear own HR hk'
      go_wp2
      go_ret
      exact ⟨rfl, HB.out⟩
end Go.Proofs.YtkkammbfomiofadDoor
