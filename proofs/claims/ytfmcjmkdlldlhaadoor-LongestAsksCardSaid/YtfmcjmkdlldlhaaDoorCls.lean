/-
  Classes: four words of 64 bits; Has, with.
-/
import Derived.Test.YtfmcjmkdlldlhaaDoorRows
import Derived.WalkKit
import Derived.WalkSpells
import Derived.WalkLawsBesides
import Derived.BigQuiet
import Derived.Deep.QuietTactic
import Derived.Laws.BitsAllLaws
import Derived.Lib.Hide
namespace Go.Proofs.YtfmcjmkdlldlhaaDoor
open Go.RowKit

/-- The four words of a class. -/
def row64 (l : List Nat) : Array Value := (l.map fun x : Nat => Value.int .u64 (x : Int)).toArray
theorem row64_size (l : List Nat) : (row64 l).size = l.length := by simp [row64]
theorem row64_get (l : List Nat) (i : Nat) (h : i < l.length) : (row64 l)[i]? = some (.int .u64 ((l[i]?.getD 0 : Nat) : Int)) := by
  simp [row64, h]
theorem row64_set (l : List Nat) (i x : Nat) : (row64 l).setIfInBounds i (.int .u64 (x : Int)) = row64 (l.set i x) := by
  apply Array.ext'
  simp [row64, List.map_set]
/-- A class: four words, each below 2^64. -/
def IsC (l : List Nat) : Prop := l.length = 4 ∧ ∀ i : Nat, l[i]?.getD 0 < 18446744073709551616
/-- Is the byte x in the class? -/
def hasL (l : List Nat) (x : Nat) : Bool := (l[x / 64]?.getD 0).testBit (x % 64)
/-- The class without bytes; the class and a byte. -/
def noneL : List Nat := [0, 0, 0, 0]
def withL (l : List Nat) (x : Nat) : List Nat := l.set (x / 64) (l[x / 64]?.getD 0 ||| 2 ^ (x % 64))

theorem isC_none : IsC noneL := ⟨rfl, fun i => by unfold noneL; match i with | 0 => simp | 1 => simp | 2 => simp | 3 => simp | n + 4 => simp⟩
theorem has_none (x : Nat) : hasL noneL x = false := by
  have : (noneL[x / 64]?.getD 0) = 0 := by unfold noneL; match x / 64 with | 0 => rfl | 1 => rfl | 2 => rfl | 3 => rfl | n + 4 => simp
  unfold hasL
  rw [this, Nat.zero_testBit]
theorem pow_lt64 (x : Nat) : 2 ^ (x % 64) < 18446744073709551616 := by
  have : 2 ^ (x % 64) < 2 ^ 64 := Nat.pow_lt_pow_right (by omega) (Nat.mod_lt _ (by omega))
  simpa using this
theorem isC_set (l : List Nat) (i v : Nat) (h : IsC l) (hv : v < 18446744073709551616) : IsC (l.set i v) := by
  refine ⟨by rw [List.length_set]; exact h.1, fun j => ?_⟩
  rw [List.getElem?_set]
  split
  · split
    · exact hv
    · simp
  · exact h.2 j
theorem isC_with (l : List Nat) (x : Nat) (h : IsC l) : IsC (withL l x) :=
  isC_set l _ _ h (by simpa using Nat.or_lt_two_pow (n := 64) (by simpa using h.2 (x / 64)) (by simpa using pow_lt64 x))
theorem has_with (l : List Nat) (x y : Nat) (h : IsC l) (hx : x < 256) : hasL (withL l x) y = (hasL l y || decide (y = x)) := by
  unfold hasL withL
  rw [List.getElem?_set]
  by_cases hxy : x / 64 = y / 64
  · rw [if_pos hxy, if_pos (by rw [h.1]; omega), hxy]
    simp only [Option.getD_some, Nat.testBit_or, Nat.testBit_two_pow]
    congr 1
    simp only [decide_eq_decide]
    omega
  · rw [if_neg hxy]
    have : decide (y = x) = false := decide_eq_false (fun e => hxy (by rw [e]))
    rw [this, Bool.or_false]
/-- Two classes with the same bytes are one. -/
theorem ext_c (l m : List Nat) (hl : IsC l) (hm : IsC m) (h : ∀ x : Nat, x < 256 → hasL l x = hasL m x) : l = m := by
  apply List.ext_getElem (by rw [hl.1, hm.1])
  intro i h1 h2
  rw [hl.1] at h1
  have e : l[i]?.getD 0 = m[i]?.getD 0 := by
    apply Nat.eq_of_testBit_eq
    intro j
    by_cases hj : j < 64
    · have := h (i * 64 + j) (by omega)
      unfold hasL at this
      rw [show (i * 64 + j) / 64 = i by omega, show (i * 64 + j) % 64 = j by omega] at this
      exact this
    · have a := hl.2 i
      have b := hm.2 i
      have hp : 18446744073709551616 ≤ 2 ^ j := by
        have : 2 ^ 64 ≤ 2 ^ j := Nat.pow_le_pow_right (by omega) (by omega)
        simpa using this
      rw [Nat.testBit_lt_two_pow (by omega), Nat.testBit_lt_two_pow (by omega)]
  have g1 : i < l.length := by rw [hl.1]; exact h1
  have g2 : i < m.length := by rw [hm.1]; exact h1
  simpa [g1, g2] using e

theorem bit_is (v k : Nat) (hv : v < 18446744073709551616) : (bits .and .u64 ((v : Int) / 2 ^ k) 1 == 1) = v.testBit k := by
  have e : ((v : Int) / 2 ^ k) = ((v / 2 ^ k : Nat) : Int) := by simp
  have hlt : v / 2 ^ k < 18446744073709551616 := Nat.lt_of_le_of_lt (Nat.div_le_self _ _) hv
  have := u64_and_nat (v / 2 ^ k) 1 hlt (by omega)
  rw [e, show (1 : Int) = ((1 : Nat) : Int) from rfl, this, Nat.and_one_is_mod, Nat.testBit_eq_decide_div_mod_eq]
  rw [Bool.eq_iff_iff]
  simp
  omega

set_option maxHeartbeats 400000 in
theorem has_any (w : World) (c : List Nat) (hc : IsC c) (x : Nat) (hx : x < 256) :
    Calls Tryd.prog 60 #[.agg (row64 c), .int .u8 (x : Int)] w fun e w' => e = .returned (.bool (hasL c x)) ∧ Below w.heap.size w w' := by
  have hg := row64_get c (x / 64) (by rw [hc.1]; omega)
  have hs := row64_size c
  rw [hc.1] at hs
  go_enter Tryd.func60, Tryd.ntmps60
  go_wp2
  go_ret
  rw [bit_is _ _ (hc.2 _)]
  exact ⟨rfl, (Below.refl _ w).alloc (Nat.le_refl _) _⟩

theorem isC_words (l : List Nat) (h : IsC l) : ∃ a b c d : Nat, l = [a, b, c, d] := by
  match l, h.1 with
  | [a, b, c, d], _ => exact ⟨a, b, c, d, rfl⟩
theorem wrap_pow (x : Nat) : IntKind.u64.wrap ((2 : Int) ^ (x % 64)) = ((2 ^ (x % 64) : Nat) : Int) := by
  have := pow_lt64 x
  rw [IntKind.wrap_u64]
  have e : (2 : Int) ^ (x % 64) = ((2 ^ (x % 64) : Nat) : Int) := by simp
  rw [e]
  generalize 2 ^ (x % 64) = n at this ⊢
  omega
theorem or_is (v x : Nat) (hv : v < 18446744073709551616) : bits .or .u64 (v : Int) (IntKind.u64.wrap ((2 : Int) ^ (x % 64))) = ((v ||| 2 ^ (x % 64) : Nat) : Int) := by
  rw [wrap_pow, u64_or_nat _ _ hv (pow_lt64 x)]

theorem infoC : (Tryd.prog.info? 41).map (·.size) = some 4 := by kernel_rfl
/-- A result that lies in cells of its own. -/
theorem ret_cls {P : Program} {fn : Func} {p : Tmp} {ty : TypeId} (h : fn.results = #[.cell p ty]) {R : Ending → World → Prop} {a : Act} {w : World} {g : Nat} {t : TypeId} {cs : Array Value} {d : TypeDesc}
    (hp : a.tmps.getD p undef = .pointer (some ⟨g, 0, none⟩)) (hg : w.heap[g]? = some (.cells cs t (0, 0)))
    (hu : P.underlying ty = some d) (hd : (match d with | .struct _ | .array _ _ => true | _ => false) = true) (hi : (P.info? ty).map (·.size) = some cs.size) (hdef : a.defers = [])
    (hR : R (.returned (.agg cs)) w) : bodyPost P fn R .ret a w :=
  bodyPost_ret (results_cell_row h _ w g t cs (0, 0) d hp hg hu hd hi) hdef hR
theorem heap_alloc2 (w : World) (o1 o2 : Obj) : ((w.alloc o1).alloc o2).heap[w.heap.size + 1]? = some o2 := by
  have := heap_alloc_new (w.alloc o1) o2
  rwa [World.size_alloc] at this
theorem below_alloc2 (w : World) (o1 o2 : Obj) : Below w.heap.size w ((w.alloc o1).alloc o2) :=
  ((Below.refl _ w).alloc (Nat.le_refl _) _).alloc (by rw [World.size_alloc]; omega) _

end Go.Proofs.YtfmcjmkdlldlhaaDoor
