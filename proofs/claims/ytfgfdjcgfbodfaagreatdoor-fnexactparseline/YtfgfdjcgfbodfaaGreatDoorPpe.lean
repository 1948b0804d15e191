/-
  What the program's parsers make of the fields is what the line says.
-/
import Derived.Test.YtfgfdjcgfbodfaaGreatDoorPpl
namespace Go.Proofs.YtfgfdjcgfbodfaaGreatDoor
open Go.RowKit
set_option linter.unusedSimpArgs false
set_option linter.unusedVariables false

def writeOf : List ByteArray → LN
  | [a, b] => .call 1 a (dash b) 0
  | _ => .bad
def namedOf (k : Int) : List ByteArray → LN
  | [a] => .call k a ⟨#[]⟩ 0
  | _ => .bad
def bareOf (ln : LN) : List ByteArray → LN
  | [] => ln
  | _ => .bad
def truncOf : List ByteArray → LN
  | [] => .bad
  | a :: q => if onlyOk [(-999999999, 999999999)] q then .call 3 a ⟨#[]⟩ (nAt q 0) else .bad
def fillOf : List ByteArray → LN
  | [] => .bad
  | a :: q => if onlyOk [(0, 2000), (0, 25)] q then .call 1 a ⟨(lettersL (nAt q 0).toNat (nAt q 1).toNat).toArray⟩ 0 else .bad
def armOf (r : List ByteArray) : LN := if leadOk [(1, 100000)] r then .num 3 (numsOf r) else .bad
def crashOf (r : List ByteArray) : LN := if leadOk [] r then .num 4 (numsOf r) else .bad
def flipOf (r : List ByteArray) : LN := if onlyOk [(0, 99999), (1, 255)] r then .num 5 (numsOf r) else .bad
theorem weq_not {s : ByteArray} {a b : List UInt8} (h : weq s a = true) (hab : (a == b) = false) : weq s b = false := by
  unfold weq at *
  rw [eq_of_beq h]
  exact hab
theorem numV_tight {l : List UInt8} (h : isNum l = true) : inB (numV l) (-999999999) 999999999 = true := by
  unfold inB
  match l, h with
  | b :: r, h =>
    by_cases hb : b = 45
    · subst hb
      have h' : posN r = true := by
        rw [isNum_neg] at h
        match r, h with
        | [], h => simp [isNum] at h
        | c :: q, h =>
          simp at h
          rw [← isNum_ne (fun hc => h.2.2 hc)]
          exact h.1
      have hf := posN_facts h'
      have := natV_9 hf.2.2 hf.2.1
      rw [numV_neg]
      simp
      omega
    · rw [isNum_ne hb] at h
      have hf := posN_facts h
      have := natV_9 hf.2.2 hf.2.1
      rw [numV_ne hb]
      simp
      omega
theorem lead_iff (bs : List (Int × Int)) (ss : List ByteArray) : leadOk bs ss = true ↔ bs.length ≤ ss.length ∧ numsFlag ss = true ∧ ∀ i, i < bs.length → inB (nAt ss i) (bLo bs i) (bHi bs i) = true := by
  have hn : numsFlag ss = true ↔ ss.length ≤ 400 ∧ ∀ i, i < ss.length → isNum (sAt ss i).data.toList = true := by
    unfold numsFlag allNum
    rw [Bool.and_eq_true, List.all_eq_true, decide_eq_true_iff]
    constructor
    · rintro ⟨h1, h2⟩
      refine ⟨h2, fun i hi => ?_⟩
      unfold sAt
      rw [List.getElem?_eq_getElem hi]
      exact h1 _ (List.getElem_mem hi)
    · rintro ⟨h1, h2⟩
      refine ⟨fun x hx => ?_, h1⟩
      obtain ⟨i, hi, rfl⟩ := List.getElem_of_mem hx
      have := h2 i hi
      unfold sAt at this
      rw [List.getElem?_eq_getElem hi] at this
      exact this
  unfold leadOk
  rw [hn, Bool.and_eq_true, Bool.and_eq_true, List.all_eq_true, decide_eq_true_iff, decide_eq_true_iff]
  unfold fldOk holdB inB nAt
  constructor
  · rintro ⟨h1, h2, h3⟩
    refine ⟨h1, ⟨h2, fun i hi => ?_⟩, fun i hi => ?_⟩
    · have := h3 i (List.mem_range.2 hi)
      rw [Bool.and_eq_true] at this
      exact this.1
    · have := h3 i (List.mem_range.2 (by omega))
      rw [Bool.and_eq_true, Bool.or_eq_true, decide_eq_true_iff] at this
      exact this.2.resolve_left (by omega)
  · rintro ⟨h1, ⟨h2, h3⟩, h4⟩
    refine ⟨h1, h2, fun i hi => ?_⟩
    have hi := List.mem_range.1 hi
    rw [Bool.and_eq_true, Bool.or_eq_true, decide_eq_true_iff]
    refine ⟨h3 i hi, ?_⟩
    by_cases h : bs.length ≤ i
    · exact .inl h
    · exact .inr (h4 i (by omega))
theorem lead_0 (r : List ByteArray) : leadOk [] r = numsFlag r := by
  rw [Bool.eq_iff_iff, lead_iff]
  simp
theorem lead_1 (lo hi : Int) (r : List ByteArray) : leadOk [(lo, hi)] r = (numsFlag r && (decide (1 ≤ r.length) && inB (nAt r 0) lo hi)) := by
  rw [Bool.eq_iff_iff, lead_iff]
  simp only [Bool.and_eq_true, decide_eq_true_iff]
  constructor
  · rintro ⟨h1, h2, h3⟩
    exact ⟨h2, h1, h3 0 (by simp)⟩
  · rintro ⟨h2, h1, h3⟩
    refine ⟨h1, h2, fun i hi => ?_⟩
    match i, hi with
    | 0, _ => exact h3
theorem only_2 (a b c d : Int) (r : List ByteArray) : onlyOk [(a, b), (c, d)] r = (numsFlag r && (decide (r.length = 2) && (inB (nAt r 0) a b && inB (nAt r 1) c d))) := by
  rw [Bool.eq_iff_iff]
  unfold onlyOk
  simp only [Bool.and_eq_true, decide_eq_true_iff, lead_iff]
  constructor
  · rintro ⟨h0, h1, h2, h3⟩
    exact ⟨h2, h0, h3 0 (by simp), h3 1 (by simp)⟩
  · rintro ⟨h2, h1, h3, h4⟩
    refine ⟨h1, by simp [h1], h2, fun i hi => ?_⟩
    match i, hi with
    | 0, _ => exact h3
    | 1, _ => exact h4
theorem only_1 (a b : Int) (r : List ByteArray) : onlyOk [(a, b)] r = (numsFlag r && (decide (r.length = 1) && inB (nAt r 0) a b)) := by
  rw [Bool.eq_iff_iff]
  unfold onlyOk
  simp only [Bool.and_eq_true, decide_eq_true_iff, lead_iff]
  constructor
  · rintro ⟨h0, h1, h2, h3⟩
    exact ⟨h2, h0, h3 0 (by simp)⟩
  · rintro ⟨h2, h1, h3⟩
    refine ⟨h1, by simp [h1], h2, fun i hi => ?_⟩
    match i, hi with
    | 0, _ => exact h3
theorem flag_1 (b : ByteArray) : numsFlag [b] = isNum b.data.toList := by simp [numsFlag, allNum]
theorem flag_2 (b c : ByteArray) : numsFlag [b, c] = (isNum b.data.toList && isNum c.data.toList) := by simp [numsFlag, allNum]
theorem trunc_ok (b : ByteArray) : onlyOk [(-999999999, 999999999)] [b] = isNum b.data.toList := by
  rw [only_1, flag_1]
  cases h : isNum b.data.toList
  · rfl
  · have := numV_tight h
    simp only [nAt, sAt, List.length_singleton, decide_true, Bool.true_and, List.getElem?_cons_zero, Option.getD_some]
    exact this
theorem fill_ok (s b c : ByteArray) (h : weq s wFill = true) : onlyOk [(0, 2000), (0, 25)] [b, c] = fillOk s b c := by
  rw [only_2, flag_2]
  unfold fillOk
  rw [h]
  simp [nAt, sAt, Bool.and_assoc]
theorem only_len1 (a b : Int) {r : List ByteArray} (h : r.length ≠ 1) : onlyOk [(a, b)] r = false := by rw [only_1, decide_eq_false h]; simp
theorem only_len2 (a b c d : Int) {r : List ByteArray} (h : r.length ≠ 2) : onlyOk [(a, b), (c, d)] r = false := by rw [only_2, decide_eq_false h]; simp
theorem eqWrite {s : ByteArray} (h : weq s wWrite = true) (r : List ByteArray) : writeOf r = parseOf (s :: r) := by
  have eFill := weq_not h (b := wFill) rfl
  have eRead := weq_not h (b := wRead) rfl
  have eTrunc := weq_not h (b := wTrunc) rfl
  have eDel := weq_not h (b := wDel) rfl
  have eList := weq_not h (b := wList) rfl
  have eSync := weq_not h (b := wSync) rfl
  have eClean := weq_not h (b := wClean) rfl
  have eStat := weq_not h (b := wStat) rfl
  have eMount := weq_not h (b := wMount) rfl
  have eArm := weq_not h (b := wArm) rfl
  have eCrash := weq_not h (b := wCrash) rfl
  have eFlip := weq_not h (b := wFlip) rfl
  match r with
  | [] => simp [h, eFill, eRead, eTrunc, eDel, eList, eSync, eClean, eStat, eMount, eArm, eCrash, eFlip, parseOf, callOf, call1, call2, call3, call4, fillOk, numsLn, sAt, LN.bad, LN.call, LN.num, writeOf, namedOf, bareOf]
  | [a] => simp [h, eFill, eRead, eTrunc, eDel, eList, eSync, eClean, eStat, eMount, eArm, eCrash, eFlip, parseOf, callOf, call1, call2, call3, call4, fillOk, numsLn, sAt, LN.bad, LN.call, LN.num, writeOf, namedOf, bareOf]
  | [a, b] => simp [h, eFill, eRead, eTrunc, eDel, eList, eSync, eClean, eStat, eMount, eArm, eCrash, eFlip, parseOf, callOf, call1, call2, call3, call4, fillOk, numsLn, sAt, LN.bad, LN.call, LN.num, writeOf, namedOf, bareOf]
  | [a, b, c] => simp [h, eFill, eRead, eTrunc, eDel, eList, eSync, eClean, eStat, eMount, eArm, eCrash, eFlip, parseOf, callOf, call1, call2, call3, call4, fillOk, numsLn, sAt, LN.bad, LN.call, LN.num, writeOf, namedOf, bareOf]
  | a :: b :: c :: d :: q => simp [h, eFill, eRead, eTrunc, eDel, eList, eSync, eClean, eStat, eMount, eArm, eCrash, eFlip, parseOf, callOf, call1, call2, call3, call4, fillOk, numsLn, sAt, LN.bad, LN.call, LN.num, writeOf, namedOf, bareOf]
theorem eqFill {s : ByteArray} (h : weq s wFill = true) (r : List ByteArray) : fillOf r = parseOf (s :: r) := by
  have eWrite := weq_not h (b := wWrite) rfl
  have eRead := weq_not h (b := wRead) rfl
  have eTrunc := weq_not h (b := wTrunc) rfl
  have eDel := weq_not h (b := wDel) rfl
  have eList := weq_not h (b := wList) rfl
  have eSync := weq_not h (b := wSync) rfl
  have eClean := weq_not h (b := wClean) rfl
  have eStat := weq_not h (b := wStat) rfl
  have eMount := weq_not h (b := wMount) rfl
  have eArm := weq_not h (b := wArm) rfl
  have eCrash := weq_not h (b := wCrash) rfl
  have eFlip := weq_not h (b := wFlip) rfl
  match r with
  | [] => simp [fillOf, h, eWrite, eRead, eTrunc, eDel, eList, eSync, eClean, eStat, eMount, eArm, eCrash, eFlip, parseOf, callOf, call1, call2, call3, call4, fillOk, numsLn, sAt, LN.bad, LN.call, LN.num, writeOf, namedOf, bareOf]
  | [a] => rw [fillOf, only_len2 _ _ _ _ (by simp)]; simp [h, eWrite, eRead, eTrunc, eDel, eList, eSync, eClean, eStat, eMount, eArm, eCrash, eFlip, parseOf, callOf, call1, call2, call3, call4, fillOk, numsLn, sAt, LN.bad, LN.call, LN.num, writeOf, namedOf, bareOf]
  | [a, b] => rw [fillOf, only_len2 _ _ _ _ (by simp)]; simp [h, eWrite, eRead, eTrunc, eDel, eList, eSync, eClean, eStat, eMount, eArm, eCrash, eFlip, parseOf, callOf, call1, call2, call3, call4, fillOk, numsLn, sAt, LN.bad, LN.call, LN.num, writeOf, namedOf, bareOf]
  | [a, b, c] => rw [fillOf, fill_ok s b c h]; cases hb : fillOk s b c <;> simp [hb, nAt, h, eWrite, eRead, eTrunc, eDel, eList, eSync, eClean, eStat, eMount, eArm, eCrash, eFlip, parseOf, callOf, call1, call2, call3, call4, numsLn, sAt, LN.bad, LN.call, LN.num, writeOf, namedOf, bareOf]
  | a :: b :: c :: d :: q => rw [fillOf, only_len2 _ _ _ _ (by simp)]; simp [h, eWrite, eRead, eTrunc, eDel, eList, eSync, eClean, eStat, eMount, eArm, eCrash, eFlip, parseOf, callOf, call1, call2, call3, call4, fillOk, numsLn, sAt, LN.bad, LN.call, LN.num, writeOf, namedOf, bareOf]
theorem eqRead {s : ByteArray} (h : weq s wRead = true) (r : List ByteArray) : namedOf 2 r = parseOf (s :: r) := by
  have eWrite := weq_not h (b := wWrite) rfl
  have eFill := weq_not h (b := wFill) rfl
  have eTrunc := weq_not h (b := wTrunc) rfl
  have eDel := weq_not h (b := wDel) rfl
  have eList := weq_not h (b := wList) rfl
  have eSync := weq_not h (b := wSync) rfl
  have eClean := weq_not h (b := wClean) rfl
  have eStat := weq_not h (b := wStat) rfl
  have eMount := weq_not h (b := wMount) rfl
  have eArm := weq_not h (b := wArm) rfl
  have eCrash := weq_not h (b := wCrash) rfl
  have eFlip := weq_not h (b := wFlip) rfl
  match r with
  | [] => simp [h, eWrite, eFill, eTrunc, eDel, eList, eSync, eClean, eStat, eMount, eArm, eCrash, eFlip, parseOf, callOf, call1, call2, call3, call4, fillOk, numsLn, sAt, LN.bad, LN.call, LN.num, writeOf, namedOf, bareOf]
  | [a] => simp [h, eWrite, eFill, eTrunc, eDel, eList, eSync, eClean, eStat, eMount, eArm, eCrash, eFlip, parseOf, callOf, call1, call2, call3, call4, fillOk, numsLn, sAt, LN.bad, LN.call, LN.num, writeOf, namedOf, bareOf]
  | [a, b] => simp [h, eWrite, eFill, eTrunc, eDel, eList, eSync, eClean, eStat, eMount, eArm, eCrash, eFlip, parseOf, callOf, call1, call2, call3, call4, fillOk, numsLn, sAt, LN.bad, LN.call, LN.num, writeOf, namedOf, bareOf]
  | [a, b, c] => simp [h, eWrite, eFill, eTrunc, eDel, eList, eSync, eClean, eStat, eMount, eArm, eCrash, eFlip, parseOf, callOf, call1, call2, call3, call4, fillOk, numsLn, sAt, LN.bad, LN.call, LN.num, writeOf, namedOf, bareOf]
  | a :: b :: c :: d :: q => simp [h, eWrite, eFill, eTrunc, eDel, eList, eSync, eClean, eStat, eMount, eArm, eCrash, eFlip, parseOf, callOf, call1, call2, call3, call4, fillOk, numsLn, sAt, LN.bad, LN.call, LN.num, writeOf, namedOf, bareOf]
theorem eqTrunc {s : ByteArray} (h : weq s wTrunc = true) (r : List ByteArray) : truncOf r = parseOf (s :: r) := by
  have eWrite := weq_not h (b := wWrite) rfl
  have eFill := weq_not h (b := wFill) rfl
  have eRead := weq_not h (b := wRead) rfl
  have eDel := weq_not h (b := wDel) rfl
  have eList := weq_not h (b := wList) rfl
  have eSync := weq_not h (b := wSync) rfl
  have eClean := weq_not h (b := wClean) rfl
  have eStat := weq_not h (b := wStat) rfl
  have eMount := weq_not h (b := wMount) rfl
  have eArm := weq_not h (b := wArm) rfl
  have eCrash := weq_not h (b := wCrash) rfl
  have eFlip := weq_not h (b := wFlip) rfl
  match r with
  | [] => simp [truncOf, h, eWrite, eFill, eRead, eDel, eList, eSync, eClean, eStat, eMount, eArm, eCrash, eFlip, parseOf, callOf, call1, call2, call3, call4, fillOk, numsLn, sAt, LN.bad, LN.call, LN.num, writeOf, namedOf, bareOf]
  | [a] => rw [truncOf, only_len1 _ _ (by simp)]; simp [h, eWrite, eFill, eRead, eDel, eList, eSync, eClean, eStat, eMount, eArm, eCrash, eFlip, parseOf, callOf, call1, call2, call3, call4, fillOk, numsLn, sAt, LN.bad, LN.call, LN.num, writeOf, namedOf, bareOf]
  | [a, b] => rw [truncOf, trunc_ok]; cases hb : isNum b.data.toList <;> simp [hb, nAt, h, eWrite, eFill, eRead, eDel, eList, eSync, eClean, eStat, eMount, eArm, eCrash, eFlip, parseOf, callOf, call1, call2, call3, call4, fillOk, numsLn, sAt, LN.bad, LN.call, LN.num, writeOf, namedOf, bareOf]
  | [a, b, c] => rw [truncOf, only_len1 _ _ (by simp)]; simp [h, eWrite, eFill, eRead, eDel, eList, eSync, eClean, eStat, eMount, eArm, eCrash, eFlip, parseOf, callOf, call1, call2, call3, call4, fillOk, numsLn, sAt, LN.bad, LN.call, LN.num, writeOf, namedOf, bareOf]
  | a :: b :: c :: d :: q => rw [truncOf, only_len1 _ _ (by simp)]; simp [h, eWrite, eFill, eRead, eDel, eList, eSync, eClean, eStat, eMount, eArm, eCrash, eFlip, parseOf, callOf, call1, call2, call3, call4, fillOk, numsLn, sAt, LN.bad, LN.call, LN.num, writeOf, namedOf, bareOf]
theorem eqDel {s : ByteArray} (h : weq s wDel = true) (r : List ByteArray) : namedOf 4 r = parseOf (s :: r) := by
  have eWrite := weq_not h (b := wWrite) rfl
  have eFill := weq_not h (b := wFill) rfl
  have eRead := weq_not h (b := wRead) rfl
  have eTrunc := weq_not h (b := wTrunc) rfl
  have eList := weq_not h (b := wList) rfl
  have eSync := weq_not h (b := wSync) rfl
  have eClean := weq_not h (b := wClean) rfl
  have eStat := weq_not h (b := wStat) rfl
  have eMount := weq_not h (b := wMount) rfl
  have eArm := weq_not h (b := wArm) rfl
  have eCrash := weq_not h (b := wCrash) rfl
  have eFlip := weq_not h (b := wFlip) rfl
  match r with
  | [] => simp [h, eWrite, eFill, eRead, eTrunc, eList, eSync, eClean, eStat, eMount, eArm, eCrash, eFlip, parseOf, callOf, call1, call2, call3, call4, fillOk, numsLn, sAt, LN.bad, LN.call, LN.num, writeOf, namedOf, bareOf]
  | [a] => simp [h, eWrite, eFill, eRead, eTrunc, eList, eSync, eClean, eStat, eMount, eArm, eCrash, eFlip, parseOf, callOf, call1, call2, call3, call4, fillOk, numsLn, sAt, LN.bad, LN.call, LN.num, writeOf, namedOf, bareOf]
  | [a, b] => simp [h, eWrite, eFill, eRead, eTrunc, eList, eSync, eClean, eStat, eMount, eArm, eCrash, eFlip, parseOf, callOf, call1, call2, call3, call4, fillOk, numsLn, sAt, LN.bad, LN.call, LN.num, writeOf, namedOf, bareOf]
  | [a, b, c] => simp [h, eWrite, eFill, eRead, eTrunc, eList, eSync, eClean, eStat, eMount, eArm, eCrash, eFlip, parseOf, callOf, call1, call2, call3, call4, fillOk, numsLn, sAt, LN.bad, LN.call, LN.num, writeOf, namedOf, bareOf]
  | a :: b :: c :: d :: q => simp [h, eWrite, eFill, eRead, eTrunc, eList, eSync, eClean, eStat, eMount, eArm, eCrash, eFlip, parseOf, callOf, call1, call2, call3, call4, fillOk, numsLn, sAt, LN.bad, LN.call, LN.num, writeOf, namedOf, bareOf]
theorem eqList {s : ByteArray} (h : weq s wList = true) (r : List ByteArray) : bareOf (.call 5 ⟨#[]⟩ ⟨#[]⟩ 0) r = parseOf (s :: r) := by
  have eWrite := weq_not h (b := wWrite) rfl
  have eFill := weq_not h (b := wFill) rfl
  have eRead := weq_not h (b := wRead) rfl
  have eTrunc := weq_not h (b := wTrunc) rfl
  have eDel := weq_not h (b := wDel) rfl
  have eSync := weq_not h (b := wSync) rfl
  have eClean := weq_not h (b := wClean) rfl
  have eStat := weq_not h (b := wStat) rfl
  have eMount := weq_not h (b := wMount) rfl
  have eArm := weq_not h (b := wArm) rfl
  have eCrash := weq_not h (b := wCrash) rfl
  have eFlip := weq_not h (b := wFlip) rfl
  match r with
  | [] => simp [h, eWrite, eFill, eRead, eTrunc, eDel, eSync, eClean, eStat, eMount, eArm, eCrash, eFlip, parseOf, callOf, call1, call2, call3, call4, fillOk, numsLn, sAt, LN.bad, LN.call, LN.num, writeOf, namedOf, bareOf]
  | [a] => simp [h, eWrite, eFill, eRead, eTrunc, eDel, eSync, eClean, eStat, eMount, eArm, eCrash, eFlip, parseOf, callOf, call1, call2, call3, call4, fillOk, numsLn, sAt, LN.bad, LN.call, LN.num, writeOf, namedOf, bareOf]
  | [a, b] => simp [h, eWrite, eFill, eRead, eTrunc, eDel, eSync, eClean, eStat, eMount, eArm, eCrash, eFlip, parseOf, callOf, call1, call2, call3, call4, fillOk, numsLn, sAt, LN.bad, LN.call, LN.num, writeOf, namedOf, bareOf]
  | [a, b, c] => simp [h, eWrite, eFill, eRead, eTrunc, eDel, eSync, eClean, eStat, eMount, eArm, eCrash, eFlip, parseOf, callOf, call1, call2, call3, call4, fillOk, numsLn, sAt, LN.bad, LN.call, LN.num, writeOf, namedOf, bareOf]
  | a :: b :: c :: d :: q => simp [h, eWrite, eFill, eRead, eTrunc, eDel, eSync, eClean, eStat, eMount, eArm, eCrash, eFlip, parseOf, callOf, call1, call2, call3, call4, fillOk, numsLn, sAt, LN.bad, LN.call, LN.num, writeOf, namedOf, bareOf]
theorem eqSync {s : ByteArray} (h : weq s wSync = true) (r : List ByteArray) : bareOf (.call 6 ⟨#[]⟩ ⟨#[]⟩ 0) r = parseOf (s :: r) := by
  have eWrite := weq_not h (b := wWrite) rfl
  have eFill := weq_not h (b := wFill) rfl
  have eRead := weq_not h (b := wRead) rfl
  have eTrunc := weq_not h (b := wTrunc) rfl
  have eDel := weq_not h (b := wDel) rfl
  have eList := weq_not h (b := wList) rfl
  have eClean := weq_not h (b := wClean) rfl
  have eStat := weq_not h (b := wStat) rfl
  have eMount := weq_not h (b := wMount) rfl
  have eArm := weq_not h (b := wArm) rfl
  have eCrash := weq_not h (b := wCrash) rfl
  have eFlip := weq_not h (b := wFlip) rfl
  match r with
  | [] => simp [h, eWrite, eFill, eRead, eTrunc, eDel, eList, eClean, eStat, eMount, eArm, eCrash, eFlip, parseOf, callOf, call1, call2, call3, call4, fillOk, numsLn, sAt, LN.bad, LN.call, LN.num, writeOf, namedOf, bareOf]
  | [a] => simp [h, eWrite, eFill, eRead, eTrunc, eDel, eList, eClean, eStat, eMount, eArm, eCrash, eFlip, parseOf, callOf, call1, call2, call3, call4, fillOk, numsLn, sAt, LN.bad, LN.call, LN.num, writeOf, namedOf, bareOf]
  | [a, b] => simp [h, eWrite, eFill, eRead, eTrunc, eDel, eList, eClean, eStat, eMount, eArm, eCrash, eFlip, parseOf, callOf, call1, call2, call3, call4, fillOk, numsLn, sAt, LN.bad, LN.call, LN.num, writeOf, namedOf, bareOf]
  | [a, b, c] => simp [h, eWrite, eFill, eRead, eTrunc, eDel, eList, eClean, eStat, eMount, eArm, eCrash, eFlip, parseOf, callOf, call1, call2, call3, call4, fillOk, numsLn, sAt, LN.bad, LN.call, LN.num, writeOf, namedOf, bareOf]
  | a :: b :: c :: d :: q => simp [h, eWrite, eFill, eRead, eTrunc, eDel, eList, eClean, eStat, eMount, eArm, eCrash, eFlip, parseOf, callOf, call1, call2, call3, call4, fillOk, numsLn, sAt, LN.bad, LN.call, LN.num, writeOf, namedOf, bareOf]
theorem eqClean {s : ByteArray} (h : weq s wClean = true) (r : List ByteArray) : bareOf (.call 7 ⟨#[]⟩ ⟨#[]⟩ 0) r = parseOf (s :: r) := by
  have eWrite := weq_not h (b := wWrite) rfl
  have eFill := weq_not h (b := wFill) rfl
  have eRead := weq_not h (b := wRead) rfl
  have eTrunc := weq_not h (b := wTrunc) rfl
  have eDel := weq_not h (b := wDel) rfl
  have eList := weq_not h (b := wList) rfl
  have eSync := weq_not h (b := wSync) rfl
  have eStat := weq_not h (b := wStat) rfl
  have eMount := weq_not h (b := wMount) rfl
  have eArm := weq_not h (b := wArm) rfl
  have eCrash := weq_not h (b := wCrash) rfl
  have eFlip := weq_not h (b := wFlip) rfl
  match r with
  | [] => simp [h, eWrite, eFill, eRead, eTrunc, eDel, eList, eSync, eStat, eMount, eArm, eCrash, eFlip, parseOf, callOf, call1, call2, call3, call4, fillOk, numsLn, sAt, LN.bad, LN.call, LN.num, writeOf, namedOf, bareOf]
  | [a] => simp [h, eWrite, eFill, eRead, eTrunc, eDel, eList, eSync, eStat, eMount, eArm, eCrash, eFlip, parseOf, callOf, call1, call2, call3, call4, fillOk, numsLn, sAt, LN.bad, LN.call, LN.num, writeOf, namedOf, bareOf]
  | [a, b] => simp [h, eWrite, eFill, eRead, eTrunc, eDel, eList, eSync, eStat, eMount, eArm, eCrash, eFlip, parseOf, callOf, call1, call2, call3, call4, fillOk, numsLn, sAt, LN.bad, LN.call, LN.num, writeOf, namedOf, bareOf]
  | [a, b, c] => simp [h, eWrite, eFill, eRead, eTrunc, eDel, eList, eSync, eStat, eMount, eArm, eCrash, eFlip, parseOf, callOf, call1, call2, call3, call4, fillOk, numsLn, sAt, LN.bad, LN.call, LN.num, writeOf, namedOf, bareOf]
  | a :: b :: c :: d :: q => simp [h, eWrite, eFill, eRead, eTrunc, eDel, eList, eSync, eStat, eMount, eArm, eCrash, eFlip, parseOf, callOf, call1, call2, call3, call4, fillOk, numsLn, sAt, LN.bad, LN.call, LN.num, writeOf, namedOf, bareOf]
theorem eqStat {s : ByteArray} (h : weq s wStat = true) (r : List ByteArray) : bareOf (.call 8 ⟨#[]⟩ ⟨#[]⟩ 0) r = parseOf (s :: r) := by
  have eWrite := weq_not h (b := wWrite) rfl
  have eFill := weq_not h (b := wFill) rfl
  have eRead := weq_not h (b := wRead) rfl
  have eTrunc := weq_not h (b := wTrunc) rfl
  have eDel := weq_not h (b := wDel) rfl
  have eList := weq_not h (b := wList) rfl
  have eSync := weq_not h (b := wSync) rfl
  have eClean := weq_not h (b := wClean) rfl
  have eMount := weq_not h (b := wMount) rfl
  have eArm := weq_not h (b := wArm) rfl
  have eCrash := weq_not h (b := wCrash) rfl
  have eFlip := weq_not h (b := wFlip) rfl
  match r with
  | [] => simp [h, eWrite, eFill, eRead, eTrunc, eDel, eList, eSync, eClean, eMount, eArm, eCrash, eFlip, parseOf, callOf, call1, call2, call3, call4, fillOk, numsLn, sAt, LN.bad, LN.call, LN.num, writeOf, namedOf, bareOf]
  | [a] => simp [h, eWrite, eFill, eRead, eTrunc, eDel, eList, eSync, eClean, eMount, eArm, eCrash, eFlip, parseOf, callOf, call1, call2, call3, call4, fillOk, numsLn, sAt, LN.bad, LN.call, LN.num, writeOf, namedOf, bareOf]
  | [a, b] => simp [h, eWrite, eFill, eRead, eTrunc, eDel, eList, eSync, eClean, eMount, eArm, eCrash, eFlip, parseOf, callOf, call1, call2, call3, call4, fillOk, numsLn, sAt, LN.bad, LN.call, LN.num, writeOf, namedOf, bareOf]
  | [a, b, c] => simp [h, eWrite, eFill, eRead, eTrunc, eDel, eList, eSync, eClean, eMount, eArm, eCrash, eFlip, parseOf, callOf, call1, call2, call3, call4, fillOk, numsLn, sAt, LN.bad, LN.call, LN.num, writeOf, namedOf, bareOf]
  | a :: b :: c :: d :: q => simp [h, eWrite, eFill, eRead, eTrunc, eDel, eList, eSync, eClean, eMount, eArm, eCrash, eFlip, parseOf, callOf, call1, call2, call3, call4, fillOk, numsLn, sAt, LN.bad, LN.call, LN.num, writeOf, namedOf, bareOf]
theorem eqMount {s : ByteArray} (h : weq s wMount = true) (r : List ByteArray) : bareOf (.num 2 []) r = parseOf (s :: r) := by
  have eWrite := weq_not h (b := wWrite) rfl
  have eFill := weq_not h (b := wFill) rfl
  have eRead := weq_not h (b := wRead) rfl
  have eTrunc := weq_not h (b := wTrunc) rfl
  have eDel := weq_not h (b := wDel) rfl
  have eList := weq_not h (b := wList) rfl
  have eSync := weq_not h (b := wSync) rfl
  have eClean := weq_not h (b := wClean) rfl
  have eStat := weq_not h (b := wStat) rfl
  have eArm := weq_not h (b := wArm) rfl
  have eCrash := weq_not h (b := wCrash) rfl
  have eFlip := weq_not h (b := wFlip) rfl
  match r with
  | [] => simp [h, eWrite, eFill, eRead, eTrunc, eDel, eList, eSync, eClean, eStat, eArm, eCrash, eFlip, parseOf, callOf, call1, call2, call3, call4, fillOk, numsLn, sAt, LN.bad, LN.call, LN.num, writeOf, namedOf, bareOf]
  | [a] => simp [h, eWrite, eFill, eRead, eTrunc, eDel, eList, eSync, eClean, eStat, eArm, eCrash, eFlip, parseOf, callOf, call1, call2, call3, call4, fillOk, numsLn, sAt, LN.bad, LN.call, LN.num, writeOf, namedOf, bareOf]
  | [a, b] => simp [h, eWrite, eFill, eRead, eTrunc, eDel, eList, eSync, eClean, eStat, eArm, eCrash, eFlip, parseOf, callOf, call1, call2, call3, call4, fillOk, numsLn, sAt, LN.bad, LN.call, LN.num, writeOf, namedOf, bareOf]
  | [a, b, c] => simp [h, eWrite, eFill, eRead, eTrunc, eDel, eList, eSync, eClean, eStat, eArm, eCrash, eFlip, parseOf, callOf, call1, call2, call3, call4, fillOk, numsLn, sAt, LN.bad, LN.call, LN.num, writeOf, namedOf, bareOf]
  | a :: b :: c :: d :: q => simp [h, eWrite, eFill, eRead, eTrunc, eDel, eList, eSync, eClean, eStat, eArm, eCrash, eFlip, parseOf, callOf, call1, call2, call3, call4, fillOk, numsLn, sAt, LN.bad, LN.call, LN.num, writeOf, namedOf, bareOf]
theorem eqArm {s : ByteArray} (h : weq s wArm = true) (r : List ByteArray) : armOf r = parseOf (s :: r) := by
  have eWrite := weq_not h (b := wWrite) rfl
  have eFill := weq_not h (b := wFill) rfl
  have eRead := weq_not h (b := wRead) rfl
  have eTrunc := weq_not h (b := wTrunc) rfl
  have eDel := weq_not h (b := wDel) rfl
  have eList := weq_not h (b := wList) rfl
  have eSync := weq_not h (b := wSync) rfl
  have eClean := weq_not h (b := wClean) rfl
  have eStat := weq_not h (b := wStat) rfl
  have eMount := weq_not h (b := wMount) rfl
  have eCrash := weq_not h (b := wCrash) rfl
  have eFlip := weq_not h (b := wFlip) rfl
  have hk : (callOf (s :: r)).k = 0 := by
    match r with
    | [] => simp [h, eWrite, eFill, eRead, eTrunc, eDel, eList, eSync, eClean, eStat, eMount, eCrash, eFlip, parseOf, callOf, call1, call2, call3, call4, fillOk, numsLn, sAt, LN.bad, LN.call, LN.num, writeOf, namedOf, bareOf]
    | [a] => simp [h, eWrite, eFill, eRead, eTrunc, eDel, eList, eSync, eClean, eStat, eMount, eCrash, eFlip, parseOf, callOf, call1, call2, call3, call4, fillOk, numsLn, sAt, LN.bad, LN.call, LN.num, writeOf, namedOf, bareOf]
    | [a, b] => simp [h, eWrite, eFill, eRead, eTrunc, eDel, eList, eSync, eClean, eStat, eMount, eCrash, eFlip, parseOf, callOf, call1, call2, call3, call4, fillOk, numsLn, sAt, LN.bad, LN.call, LN.num, writeOf, namedOf, bareOf]
    | [a, b, c] => simp [h, eWrite, eFill, eRead, eTrunc, eDel, eList, eSync, eClean, eStat, eMount, eCrash, eFlip, parseOf, callOf, call1, call2, call3, call4, fillOk, numsLn, sAt, LN.bad, LN.call, LN.num, writeOf, namedOf, bareOf]
    | a :: b :: c :: d :: q => rfl
  have hs : sAt (s :: r) 0 = s := rfl
  have hd : (s :: r).drop 1 = r := rfl
  have hn1 : nAt (s :: r) 1 = nAt r 0 := rfl
  have hn2 : nAt (s :: r) 2 = nAt r 1 := rfl
  have hl : (s :: r).length = r.length + 1 := rfl
  have hm : (decide ((s :: r).length = 1) && weq (sAt (s :: r) 0) wMount) = false := by rw [hs, eMount]; simp
  unfold parseOf
  rw [if_neg (fun h' => h' hk), hm, hd]
  unfold numsLn
  rw [hs, hd, hn1, hn2, hl]
  unfold armOf
  rw [lead_1, h, eCrash, eFlip]
  cases numsFlag r
  · rfl
  · simp
theorem eqCrash {s : ByteArray} (h : weq s wCrash = true) (r : List ByteArray) : crashOf r = parseOf (s :: r) := by
  have eWrite := weq_not h (b := wWrite) rfl
  have eFill := weq_not h (b := wFill) rfl
  have eRead := weq_not h (b := wRead) rfl
  have eTrunc := weq_not h (b := wTrunc) rfl
  have eDel := weq_not h (b := wDel) rfl
  have eList := weq_not h (b := wList) rfl
  have eSync := weq_not h (b := wSync) rfl
  have eClean := weq_not h (b := wClean) rfl
  have eStat := weq_not h (b := wStat) rfl
  have eMount := weq_not h (b := wMount) rfl
  have eArm := weq_not h (b := wArm) rfl
  have eFlip := weq_not h (b := wFlip) rfl
  have hk : (callOf (s :: r)).k = 0 := by
    match r with
    | [] => simp [h, eWrite, eFill, eRead, eTrunc, eDel, eList, eSync, eClean, eStat, eMount, eArm, eFlip, parseOf, callOf, call1, call2, call3, call4, fillOk, numsLn, sAt, LN.bad, LN.call, LN.num, writeOf, namedOf, bareOf]
    | [a] => simp [h, eWrite, eFill, eRead, eTrunc, eDel, eList, eSync, eClean, eStat, eMount, eArm, eFlip, parseOf, callOf, call1, call2, call3, call4, fillOk, numsLn, sAt, LN.bad, LN.call, LN.num, writeOf, namedOf, bareOf]
    | [a, b] => simp [h, eWrite, eFill, eRead, eTrunc, eDel, eList, eSync, eClean, eStat, eMount, eArm, eFlip, parseOf, callOf, call1, call2, call3, call4, fillOk, numsLn, sAt, LN.bad, LN.call, LN.num, writeOf, namedOf, bareOf]
    | [a, b, c] => simp [h, eWrite, eFill, eRead, eTrunc, eDel, eList, eSync, eClean, eStat, eMount, eArm, eFlip, parseOf, callOf, call1, call2, call3, call4, fillOk, numsLn, sAt, LN.bad, LN.call, LN.num, writeOf, namedOf, bareOf]
    | a :: b :: c :: d :: q => rfl
  have hs : sAt (s :: r) 0 = s := rfl
  have hd : (s :: r).drop 1 = r := rfl
  have hn1 : nAt (s :: r) 1 = nAt r 0 := rfl
  have hn2 : nAt (s :: r) 2 = nAt r 1 := rfl
  have hl : (s :: r).length = r.length + 1 := rfl
  have hm : (decide ((s :: r).length = 1) && weq (sAt (s :: r) 0) wMount) = false := by rw [hs, eMount]; simp
  unfold parseOf
  rw [if_neg (fun h' => h' hk), hm, hd]
  unfold numsLn
  rw [hs, hd, hn1, hn2, hl]
  unfold crashOf
  rw [lead_0, h, eArm]
  simp
theorem eqFlip {s : ByteArray} (h : weq s wFlip = true) (r : List ByteArray) : flipOf r = parseOf (s :: r) := by
  have eWrite := weq_not h (b := wWrite) rfl
  have eFill := weq_not h (b := wFill) rfl
  have eRead := weq_not h (b := wRead) rfl
  have eTrunc := weq_not h (b := wTrunc) rfl
  have eDel := weq_not h (b := wDel) rfl
  have eList := weq_not h (b := wList) rfl
  have eSync := weq_not h (b := wSync) rfl
  have eClean := weq_not h (b := wClean) rfl
  have eStat := weq_not h (b := wStat) rfl
  have eMount := weq_not h (b := wMount) rfl
  have eArm := weq_not h (b := wArm) rfl
  have eCrash := weq_not h (b := wCrash) rfl
  have hk : (callOf (s :: r)).k = 0 := by
    match r with
    | [] => simp [h, eWrite, eFill, eRead, eTrunc, eDel, eList, eSync, eClean, eStat, eMount, eArm, eCrash, parseOf, callOf, call1, call2, call3, call4, fillOk, numsLn, sAt, LN.bad, LN.call, LN.num, writeOf, namedOf, bareOf]
    | [a] => simp [h, eWrite, eFill, eRead, eTrunc, eDel, eList, eSync, eClean, eStat, eMount, eArm, eCrash, parseOf, callOf, call1, call2, call3, call4, fillOk, numsLn, sAt, LN.bad, LN.call, LN.num, writeOf, namedOf, bareOf]
    | [a, b] => simp [h, eWrite, eFill, eRead, eTrunc, eDel, eList, eSync, eClean, eStat, eMount, eArm, eCrash, parseOf, callOf, call1, call2, call3, call4, fillOk, numsLn, sAt, LN.bad, LN.call, LN.num, writeOf, namedOf, bareOf]
    | [a, b, c] => simp [h, eWrite, eFill, eRead, eTrunc, eDel, eList, eSync, eClean, eStat, eMount, eArm, eCrash, parseOf, callOf, call1, call2, call3, call4, fillOk, numsLn, sAt, LN.bad, LN.call, LN.num, writeOf, namedOf, bareOf]
    | a :: b :: c :: d :: q => rfl
  have hs : sAt (s :: r) 0 = s := rfl
  have hd : (s :: r).drop 1 = r := rfl
  have hn1 : nAt (s :: r) 1 = nAt r 0 := rfl
  have hn2 : nAt (s :: r) 2 = nAt r 1 := rfl
  have hl : (s :: r).length = r.length + 1 := rfl
  have hm : (decide ((s :: r).length = 1) && weq (sAt (s :: r) 0) wMount) = false := by rw [hs, eMount]; simp
  unfold parseOf
  rw [if_neg (fun h' => h' hk), hm, hd]
  unfold numsLn
  rw [hs, hd, hn1, hn2, hl]
  unfold flipOf
  rw [only_2, h, eArm, eCrash]
  cases numsFlag r
  · rfl
  · simp
theorem eqNone {s : ByteArray} (eWrite : weq s wWrite = false) (eFill : weq s wFill = false) (eRead : weq s wRead = false) (eTrunc : weq s wTrunc = false) (eDel : weq s wDel = false) (eList : weq s wList = false) (eSync : weq s wSync = false) (eClean : weq s wClean = false) (eStat : weq s wStat = false) (eMount : weq s wMount = false) (eArm : weq s wArm = false) (eCrash : weq s wCrash = false) (eFlip : weq s wFlip = false) (r : List ByteArray) : .bad = parseOf (s :: r) := by
  match r with
  | [] => simp [eWrite, eFill, eRead, eTrunc, eDel, eList, eSync, eClean, eStat, eMount, eArm, eCrash, eFlip, parseOf, callOf, call1, call2, call3, call4, fillOk, numsLn, sAt, LN.bad, LN.call, LN.num]
  | [a] => simp [eWrite, eFill, eRead, eTrunc, eDel, eList, eSync, eClean, eStat, eMount, eArm, eCrash, eFlip, parseOf, callOf, call1, call2, call3, call4, fillOk, numsLn, sAt, LN.bad, LN.call, LN.num]
  | [a, b] => simp [eWrite, eFill, eRead, eTrunc, eDel, eList, eSync, eClean, eStat, eMount, eArm, eCrash, eFlip, parseOf, callOf, call1, call2, call3, call4, fillOk, numsLn, sAt, LN.bad, LN.call, LN.num]
  | [a, b, c] => simp [eWrite, eFill, eRead, eTrunc, eDel, eList, eSync, eClean, eStat, eMount, eArm, eCrash, eFlip, parseOf, callOf, call1, call2, call3, call4, fillOk, numsLn, sAt, LN.bad, LN.call, LN.num]
  | a :: b :: c :: d :: q => simp [eWrite, eFill, eRead, eTrunc, eDel, eList, eSync, eClean, eStat, eMount, eArm, eCrash, eFlip, parseOf, callOf, call1, call2, call3, call4, fillOk, numsLn, sAt, LN.bad, LN.call, LN.num]
end Go.Proofs.YtfgfdjcgfbodfaaGreatDoor
