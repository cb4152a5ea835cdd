/-
  quote.Word: the table and its walk.
-/
import Derived.Test.YtboikhalfffioaaDoorBytes
import Derived.Test.YtboikhalfffioaaDoorShelf
import Derived.Deep.MidRow
import Derived.Lib.ItoaLen
import Derived.Lib.AppendIntMem
import Derived.Deep.DeepCutAuto
namespace Go.Proofs.YtboikhalfffioaaDoor
open Go.RowKit

/-- The numbers and their words. -/
def wordsL : List (Int × ByteArray) := [
  (0, ⟨#[110, 111, 32, 101, 114, 114, 111, 114]⟩),
  (1, ⟨#[98, 97, 100, 32, 97, 114, 103, 117, 109, 101, 110, 116]⟩),
  (2, ⟨#[116, 111, 111, 32, 108, 111, 110, 103]⟩),
  (20, ⟨#[98, 97, 100, 32, 110, 97, 109, 101]⟩),
  (21, ⟨#[110, 111, 32, 115, 117, 99, 104, 32, 102, 105, 108, 101]⟩),
  (22, ⟨#[110, 111, 32, 114, 111, 111, 109]⟩),
  (23, ⟨#[105, 110, 112, 117, 116, 32, 111, 114, 32, 111, 117, 116, 112, 117, 116, 32, 102, 97, 105, 108, 101, 100]⟩),
  (24, ⟨#[116, 104, 101, 32, 112, 111, 119, 101, 114, 32, 105, 115, 32, 103, 111, 110, 101]⟩),
  (30, ⟨#[98, 97, 100, 32, 114, 97, 110, 103, 101]⟩),
  (31, ⟨#[110, 111, 32, 115, 117, 99, 104, 32, 99, 108, 97, 115, 115]⟩),
  (32, ⟨#[98, 114, 97, 99, 107, 101, 116, 32, 110, 111, 116, 32, 99, 108, 111, 115, 101, 100]⟩),
  (40, ⟨#[98, 97, 100, 32, 101, 115, 99, 97, 112, 101]⟩),
  (41, ⟨#[117, 110, 112, 97, 105, 114, 101, 100, 32, 112, 97, 114, 101, 110, 116, 104, 101, 115, 105, 115]⟩),
  (42, ⟨#[110, 111, 116, 104, 105, 110, 103, 32, 116, 111, 32, 114, 101, 112, 101, 97, 116]⟩),
  (43, ⟨#[98, 97, 100, 32, 99, 111, 117, 110, 116]⟩),
  (44, ⟨#[110, 111, 32, 115, 117, 99, 104, 32, 103, 114, 111, 117, 112]⟩),
  (45, ⟨#[101, 109, 112, 116, 121, 32, 114, 101, 103, 101, 120]⟩),
  (46, ⟨#[110, 101, 115, 116, 101, 100, 32, 116, 111, 111, 32, 100, 101, 101, 112]⟩),
  (47, ⟨#[116, 111, 111, 32, 109, 97, 110, 121, 32, 103, 114, 111, 117, 112, 115]⟩),
  (48, ⟨#[116, 111, 111, 32, 104, 101, 97, 118, 121]⟩),
  (49, ⟨#[110, 111, 32, 114, 101, 103, 101, 120]⟩),
  (50, ⟨#[99, 97, 110, 110, 111, 116, 32, 98, 101, 32, 115, 112, 101, 108, 108, 101, 100]⟩),
  (51, ⟨#[116, 111, 111, 32, 109, 97, 110, 121, 32, 115, 116, 97, 116, 101, 115]⟩),
  (52, ⟨#[102, 117, 101, 108, 32, 105, 115, 32, 103, 111, 110, 101]⟩),
  (60, ⟨#[98, 97, 100, 32, 116, 97, 98, 108, 101]⟩),
  (61, ⟨#[98, 97, 100, 32, 114, 101, 112, 108, 97, 99, 101, 109, 101, 110, 116]⟩),
  (62, ⟨#[115, 112, 97, 99, 101, 32, 105, 115, 32, 102, 117, 108, 108]⟩),
  (70, ⟨#[110, 111, 116, 32, 99, 108, 111, 115, 101, 100]⟩),
  (71, ⟨#[98, 97, 100, 32, 97, 100, 100, 114, 101, 115, 115]⟩),
  (72, ⟨#[98, 97, 100, 32, 99, 111, 109, 109, 97, 110, 100]⟩),
  (73, ⟨#[110, 111, 32, 116, 101, 120, 116]⟩),
  (74, ⟨#[98, 97, 100, 32, 102, 108, 97, 103]⟩),
  (75, ⟨#[98, 97, 100, 32, 108, 97, 98, 101, 108]⟩),
  (76, ⟨#[117, 110, 112, 97, 105, 114, 101, 100, 32, 98, 114, 97, 99, 101]⟩),
  (77, ⟨#[98, 97, 100, 32, 102, 105, 108, 101]⟩),
  (78, ⟨#[109, 111, 114, 101, 32, 116, 104, 97, 110, 32, 97, 32, 99, 111, 109, 109, 97, 110, 100]⟩),
  (80, ⟨#[115, 116, 101, 112, 115, 32, 97, 114, 101, 32, 103, 111, 110, 101]⟩),
  (81, ⟨#[99, 97, 110, 110, 111, 116, 32, 119, 114, 105, 116, 101]⟩),
  (90, ⟨#[98, 97, 100, 32, 111, 112, 116, 105, 111, 110]⟩),
  (91, ⟨#[98, 97, 100, 32, 117, 115, 101]⟩),
  (100, ⟨#[98, 97, 100, 32, 108, 105, 110, 101]⟩)]
def wordCells : List Value := wordsL.flatMap fun p => [.int .i64 p.1, .string p.2]
/-- The word of a number. -/
def wordB (e : Int) : ByteArray := match wordsL.find? (fun p => p.1 == e) with
  | some p => p.2
  | none => ⟨#[101, 114, 114, 111, 114, 32]⟩ ++ ⟨(Lib.itoa e).toArray⟩
/-- The tables that Word reads. -/
structure WdW (w : World) : Prop where
  tab : w.rangeAt 1 0 wordCells
  pow : Lib.TabIs Tryd.prog w "internal/strconv.uint64pow10" .u64 Lib.pow10Tab

theorem tab_below {w w' : World} (h : Lib.TabIs Tryd.prog w "internal/strconv.uint64pow10" .u64 Lib.pow10Tab) (hb : Below w.heap.size w w') : Lib.TabIs Tryd.prog w' "internal/strconv.uint64pow10" .u64 Lib.pow10Tab := by
  unfold Lib.TabIs World.var? at h ⊢
  cases hg : Tryd.prog.globalNamed "internal/strconv.uint64pow10" with
  | none => rw [hg] at h; cases h
  | some g =>
    rw [hg] at h
    simp only [Option.bind_some] at h ⊢
    have hlt : g < w.heap.size := by
      rcases Nat.lt_or_ge g w.heap.size with h' | h'
      · exact h'
      · rw [Array.getElem?_eq_none h'] at h; cases h
    rw [hb.block g hlt]
    exact h
theorem cell_k {w w' : World} {a : Addr} {v : Value} (hb : Below w.heap.size w w') (h : w.cell? a = some v) : w'.cell? a = some v := (hb.cell (World.block_lt_of_cell? w a h)).trans h
theorem WdW.below {w w' : World} (h : WdW w) (hb : Below w.heap.size w w') : WdW w' :=
  ⟨fun j v hj => cell_k hb (h.tab j v hj), tab_below h.pow hb⟩
theorem idxW (w : World) (W : Array Value) (k : Nat) (hk : k < 41) : Sem.run Tryd.prog (Instr.index 71 (.agg W) (.int .i64 (k : Int))) w = .ok (.agg (W.extract (k * 2) (k * 2 + 2))) w := by
  have h1 : (0 : Int) ≤ (k : Int) ∧ (k : Int) < 41 := by omega
  simp [Instr.index, asIntOf, run_underlying Tryd.underlying71, hk, part, Tryd.isAgg70, Tryd.sizeOf70]
theorem wordsL_len : wordsL.length = 41 := by rfl
def wCells (l : List (Int × ByteArray)) : List Value := l.flatMap fun p => [.int .i64 p.1, .string p.2]
theorem flat_two (l : List (Int × ByteArray)) (k : Nat) (p : Int × ByteArray) (h : l[k]? = some p) : ((wCells l).drop (k * 2)).take 2 = [.int .i64 p.1, .string p.2] := by
  induction l generalizing k with
  | nil => simp at h
  | cons q l ih =>
    cases k with
    | zero =>
      simp at h
      subst h
      rfl
    | succ k =>
      have hq : wCells (q :: l) = .int .i64 q.1 :: .string q.2 :: wCells l := rfl
      rw [hq, show (k + 1) * 2 = k * 2 + 2 by omega, List.drop_succ_cons, List.drop_succ_cons]
      exact ih k (by simpa using h)
theorem two_at (k : Nat) (p : Int × ByteArray) (h : wordsL[k]? = some p) : wordCells.toArray.extract (k * 2) (k * 2 + 2) = #[.int .i64 p.1, .string p.2] := by
  have h2 := flat_two wordsL k p h
  rw [← Array.toList_inj, Array.toList_extract, List.extract_eq_take_drop, show k * 2 + 2 - k * 2 = 2 by omega]
  exact h2
theorem find_none (l : List (Int × ByteArray)) (e : Int) (h : ∀ (j : Nat) (p : Int × ByteArray), l[j]? = some p → p.1 ≠ e) : l.find? (fun p => p.1 == e) = none := by
  rw [List.find?_eq_none]
  intro p hp
  obtain ⟨j, hj, rfl⟩ := List.getElem_of_mem hp
  simpa using h j _ (List.getElem?_eq_getElem hj)
theorem find_at (l : List (Int × ByteArray)) (e : Int) (k : Nat) (p : Int × ByteArray) (hk : l[k]? = some p) (hp : p.1 = e) (h : ∀ (j : Nat) (q : Int × ByteArray), j < k → l[j]? = some q → q.1 ≠ e) : l.find? (fun p => p.1 == e) = some p := by
  induction l generalizing k with
  | nil => simp at hk
  | cons q l ih =>
    cases k with
    | zero =>
      simp at hk
      subst hk
      simp [hp]
    | succ k =>
      have h0 : (q.1 == e) = false := by simpa using h 0 q (by omega) rfl
      rw [List.find?_cons, h0]
      exact ih k (by simpa using hk) (fun j r hj hr => h (j + 1) r (by omega) (by simpa using hr))
theorem itoa_size (e : Int) (h0 : -9223372036854775808 ≤ e) (h1 : e ≤ 9223372036854775807) : (⟨(Lib.itoa e).toArray⟩ : ByteArray).size ≤ 21 := Lib.itoa_length_le e h0 h1

set_option maxHeartbeats 2000000 in
set_option maxRecDepth 100000 in
theorem word_any (w : World) (hw : WdW w) (e : Int) (h0 : -9223372036854775808 ≤ e) (h1 : e ≤ 9223372036854775807) : Calls Tryd.prog 16 #[.int .i64 e] w fun r w' => r = .returned (.string (wordB e)) ∧ Below w.heap.size w w' := by
  have HW := Lib.hid hw
  have HE := Lib.hid (And.intro h0 h1)
  have hir : (Tryd.prog.info? 71).map (·.size) = some wordCells.length := by kernel_rfl
  clear hw h0 h1
  go_enter Tryd.func16, Tryd.ntmps16
  go_wp2_with (refine wpList_load_mid rfl 71 (.global 1) rfl 1 0 rfl wordCells _ HW.out.tab Tryd.underlying71 rfl hir ?_)
  clear hir
  have HT := Lib.hid (fun k p h => two_at k p h)
  generalize wordCells.toArray = W at HT ⊢
  have HIX := Lib.hid (fun w1 k hk => idxW w1 W k hk)
  go_loopw [6] (fun v wr => ∃ k : Nat, k ≤ 41 ∧ v = .int .i64 (k : Int) ∧ Below w.heap.size w wr ∧ ∀ (j : Nat) (q : Int × ByteArray), j < k → wordsL[j]? = some q → q.1 ≠ e) (fun v _ => 41 - (intOf v).toNat)
  case atStart => exact ⟨0, by omega, rfl, Below.refl _ _, fun j q hj => absurd hj (by omega)⟩
  case round =>
    obtain ⟨k, hk, rfl, hb, hno⟩ := hrel
    have HB := Lib.hid hb
    have HNO := Lib.hid hno
    clear hb hno
    by_cases hlt : k < 41
    · have hd : decide ((k : Int) < 41) = true := decide_eq_true (by omega)
      obtain ⟨⟨pe, pw⟩, hp⟩ : ∃ p, wordsL[k]? = some p := ⟨_, List.getElem?_eq_getElem (by rw [wordsL_len]; exact hlt)⟩
      have hix := HIX.out
      have hixk := HT.out k (pe, pw) hp
      have HP := Lib.hid hp
      clear hp
      by_cases he : pe = e
      · have hq : (pe == e) = true := by simpa using he
        have HEQ : Hid (wordB e = pw) := Lib.hid (by
          unfold wordB
          rw [find_at wordsL e k (pe, pw) HP.out he (fun j q hj hq => HNO.out j q hj hq)])
        clear he
        go_wp2_with fail
        go_ret
        refine ⟨?_, HB.out.alloc HB.out.size _⟩
        rw [HEQ.out]
        rfl
      · have hq : (pe == e) = false := by simpa using he
        have HNE := Lib.hid he
        clear he
        go_wp2_with fail
        go_roundw
        case rel =>
          refine ⟨k + 1, by omega, by go_num, HB.out.alloc HB.out.size _, fun j q hj hq2 => ?_⟩
          by_cases hjk : j = k
          · subst hjk
            rw [HP.out] at hq2
            cases hq2
            exact HNE.out
          · exact HNO.out j q (by omega) hq2
        case measure => simp [intOf]; omega
    · obtain rfl : k = 41 := by omega
      have hd : decide ((41 : Int) < 41) = false := by decide
      have HPW := Lib.hid (HW.out.below HB.out).pow
      have HEQ : Hid (wordB e = ⟨#[101, 114, 114, 111, 114, 32]⟩ ++ ⟨(Lib.itoa e).toArray⟩) := Lib.hid (by
        unfold wordB
        rw [find_none wordsL e (fun j p hp => HNO.out j p (by have := (List.getElem?_eq_some_iff.1 hp).1; rw [wordsL_len] at this; exact this) hp)])
      have hsz := itoa_size e HE.out.1 HE.out.2
      obtain ⟨t, ht⟩ : ∃ t : ByteArray, ⟨(Lib.itoa e).toArray⟩ = t := ⟨_, rfl⟩
      have HIT : Hid (Calls Tryd.prog 47 #[.int .i64 e] wr fun r w' => r = .returned (.string t) ∧ Below wr.heap.size wr w') := Lib.hid (by
        rw [← ht]
        refine (Tryd.strconv_Itoa e HE.out.1 HE.out.2 wr HPW.out).mono ?_
        rintro r w' ⟨rfl, q, os, rfl⟩
        exact ⟨rfl, Lib.below_grow _ _ (Nat.le_refl _) _ _⟩)
      rw [ht] at HEQ hsz
      clear ht
      have hs1 : ¬ 9223372036854775807 < 6 + t.size := by omega
      go_wp2_with (go_at_call 47; refine HIT.out.mono ?_)
      rintro r w1 ⟨rfl, b1⟩
      have HB1 := Lib.hid (HB.out.trans (b1.mono HB.out.size))
      clear b1
      go_wp2_with fail
      go_ret
      exact ⟨by rw [HEQ.out]; rfl, HB1.out⟩
end Go.Proofs.YtboikhalfffioaaDoor
