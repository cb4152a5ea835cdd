/-
  Several texts in one: BagNil, BagB, BagW, BagA, Bag4, BagI, Bag2, BagK, Bag1, Arr2, BagBo, BagBoA, BagP, BagBoG.
-/
import Derived.Test.YtfmcjmkdlldlhaaDoorBagM
import Derived.Test.YtfmcjmkdlldlhaaDoorBase
import Derived.Lib.Hide
import Derived.Laws.OwnMore
import Derived.Deep.DeepCutAuto
import Derived.Test.YtfmcjmkdlldlhaaDoorUp
import Derived.Test.YtfmcjmkdlldlhaaDoorBytes
import Derived.Deep.RegionHeld3
import Derived.Deep.QuietTactic

namespace Go.Proofs.YtfmcjmkdlldlhaaDoor
open Go.RowKit

set_option maxRecDepth 100000 in
theorem apartBytes_nil (w : World) (bg : Nat) (h : w.cell? ⟨bg, 0, none⟩ = some (.slice none 0 0)) :
    Calls Tryd.prog 35 #[.pointer (some ⟨bg, 0, none⟩)] w fun e w' => e = .returned (.bool true) ∧ w = w' := by
  go_enter Tryd.func35, Tryd.ntmps35
  go_wp2
  go_loop [3] (fun i => i = .int .i64 0) (fun _ => 0)
  case atStart => rfl
  case round =>
    subst hrel
    go_wp2
    go_loop [6, 7] (fun v i => v = .slice none 0 0 ∧ i = .int .i64 0) (fun _ _ => 0)
    case atStart => exact ⟨rfl, rfl⟩
    case round =>
      obtain ⟨rfl, rfl⟩ := hrel
      go_wp2
      go_loop [10] (fun i => i = .int .i64 0) (fun _ => 0)
      case atStart => rfl
      case round =>
        subst hrel
        go_wp2
        go_ret
        exact ⟨rfl, rfl⟩

set_option maxRecDepth 100000 in
theorem apartInts_nil (w : World) (bg : Nat) (h : w.cell? ⟨bg, 1, none⟩ = some (.slice none 0 0)) :
    Calls Tryd.prog 36 #[.pointer (some ⟨bg, 0, none⟩)] w fun e w' => e = .returned (.bool true) ∧ w = w' := by
  go_enter Tryd.func36, Tryd.ntmps36
  go_wp2
  go_loop [3] (fun i => i = .int .i64 0) (fun _ => 0)
  case atStart => rfl
  case round =>
    subst hrel
    go_wp2
    go_loop [6, 7] (fun v i => v = .slice none 0 0 ∧ i = .int .i64 0) (fun _ _ => 0)
    case atStart => exact ⟨rfl, rfl⟩
    case round =>
      obtain ⟨rfl, rfl⟩ := hrel
      go_wp2
      go_loop [10] (fun i => i = .int .i64 0) (fun _ => 0)
      case atStart => rfl
      case round =>
        subst hrel
        go_wp2
        go_ret
        exact ⟨rfl, rfl⟩

set_option maxRecDepth 100000 in
theorem apartBools_nil (w : World) (bg : Nat) (h : w.cell? ⟨bg, 2, none⟩ = some (.slice none 0 0)) :
    Calls Tryd.prog 37 #[.pointer (some ⟨bg, 0, none⟩)] w fun e w' => e = .returned (.bool true) ∧ w = w' := by
  go_enter Tryd.func37, Tryd.ntmps37
  go_wp2
  go_loop [3] (fun i => i = .int .i64 0) (fun _ => 0)
  case atStart => rfl
  case round =>
    subst hrel
    go_wp2
    go_loop [6, 7] (fun v i => v = .slice none 0 0 ∧ i = .int .i64 0) (fun _ _ => 0)
    case atStart => exact ⟨rfl, rfl⟩
    case round =>
      obtain ⟨rfl, rfl⟩ := hrel
      go_wp2
      go_loop [10] (fun i => i = .int .i64 0) (fun _ => 0)
      case atStart => rfl
      case round =>
        subst hrel
        go_wp2
        go_ret
        exact ⟨rfl, rfl⟩

set_option maxRecDepth 100000 in
theorem apartTexts_nil (w : World) (bg : Nat) (h : w.cell? ⟨bg, 3, none⟩ = some (.slice none 0 0)) :
    Calls Tryd.prog 38 #[.pointer (some ⟨bg, 0, none⟩)] w fun e w' => e = .returned (.bool true) ∧ w = w' := by
  go_enter Tryd.func38, Tryd.ntmps38
  go_wp2
  go_loop [3] (fun i => i = .int .i64 0) (fun _ => 0)
  case atStart => rfl
  case round =>
    subst hrel
    go_wp2
    go_loop [6, 7] (fun v i => v = .slice none 0 0 ∧ i = .int .i64 0) (fun _ _ => 0)
    case atStart => exact ⟨rfl, rfl⟩
    case round =>
      obtain ⟨rfl, rfl⟩ := hrel
      go_wp2
      go_loop [10] (fun i => i = .int .i64 0) (fun _ => 0)
      case atStart => rfl
      case round =>
        subst hrel
        go_wp2
        go_ret
        exact ⟨rfl, rfl⟩

set_option maxRecDepth 100000 in
theorem apartMarks_nil (w : World) (bg : Nat) (h : w.cell? ⟨bg, 4, none⟩ = some (.slice none 0 0)) :
    Calls Tryd.prog 39 #[.pointer (some ⟨bg, 0, none⟩)] w fun e w' => e = .returned (.bool true) ∧ w = w' := by
  go_enter Tryd.func39, Tryd.ntmps39
  go_wp2
  go_loop [3] (fun i => i = .int .i64 0) (fun _ => 0)
  case atStart => rfl
  case round =>
    subst hrel
    go_wp2
    go_loop [6, 7] (fun v i => v = .slice none 0 0 ∧ i = .int .i64 0) (fun _ _ => 0)
    case atStart => exact ⟨rfl, rfl⟩
    case round =>
      obtain ⟨rfl, rfl⟩ := hrel
      go_wp2
      go_loop [10] (fun i => i = .int .i64 0) (fun _ => 0)
      case atStart => rfl
      case round =>
        subst hrel
        go_wp2
        go_ret
        exact ⟨rfl, rfl⟩

set_option maxRecDepth 100000 in
theorem apartSpans_nil (w : World) (bg : Nat) (h : w.cell? ⟨bg, 5, none⟩ = some (.slice none 0 0)) :
    Calls Tryd.prog 40 #[.pointer (some ⟨bg, 0, none⟩)] w fun e w' => e = .returned (.bool true) ∧ w = w' := by
  go_enter Tryd.func40, Tryd.ntmps40
  go_wp2
  go_loop [3] (fun i => i = .int .i64 0) (fun _ => 0)
  case atStart => rfl
  case round =>
    subst hrel
    go_wp2
    go_loop [6, 7] (fun v i => v = .slice none 0 0 ∧ i = .int .i64 0) (fun _ _ => 0)
    case atStart => exact ⟨rfl, rfl⟩
    case round =>
      obtain ⟨rfl, rfl⟩ := hrel
      go_wp2
      go_loop [10] (fun i => i = .int .i64 0) (fun _ => 0)
      case atStart => rfl
      case round =>
        subst hrel
        go_wp2
        go_ret
        exact ⟨rfl, rfl⟩

set_option maxRecDepth 100000 in
theorem apartRuns_nil (w : World) (bg : Nat) (h : w.cell? ⟨bg, 6, none⟩ = some (.slice none 0 0)) :
    Calls Tryd.prog 41 #[.pointer (some ⟨bg, 0, none⟩)] w fun e w' => e = .returned (.bool true) ∧ w = w' := by
  go_enter Tryd.func41, Tryd.ntmps41
  go_wp2
  go_loop [3] (fun i => i = .int .i64 0) (fun _ => 0)
  case atStart => rfl
  case round =>
    subst hrel
    go_wp2
    go_loop [6, 7] (fun v i => v = .slice none 0 0 ∧ i = .int .i64 0) (fun _ _ => 0)
    case atStart => exact ⟨rfl, rfl⟩
    case round =>
      obtain ⟨rfl, rfl⟩ := hrel
      go_wp2
      go_loop [10] (fun i => i = .int .i64 0) (fun _ => 0)
      case atStart => rfl
      case round =>
        subst hrel
        go_wp2
        go_ret
        exact ⟨rfl, rfl⟩

set_option maxRecDepth 100000 in
theorem apartClasses_nil (w : World) (bg : Nat) (h : w.cell? ⟨bg, 7, none⟩ = some (.slice none 0 0)) :
    Calls Tryd.prog 42 #[.pointer (some ⟨bg, 0, none⟩)] w fun e w' => e = .returned (.bool true) ∧ w = w' := by
  go_enter Tryd.func42, Tryd.ntmps42
  go_wp2
  go_loop [3] (fun i => i = .int .i64 0) (fun _ => 0)
  case atStart => rfl
  case round =>
    subst hrel
    go_wp2
    go_loop [6, 7] (fun v i => v = .slice none 0 0 ∧ i = .int .i64 0) (fun _ _ => 0)
    case atStart => exact ⟨rfl, rfl⟩
    case round =>
      obtain ⟨rfl, rfl⟩ := hrel
      go_wp2
      go_loop [10] (fun i => i = .int .i64 0) (fun _ => 0)
      case atStart => rfl
      case round =>
        subst hrel
        go_wp2
        go_ret
        exact ⟨rfl, rfl⟩

set_option maxRecDepth 100000 in
theorem apartNodes_nil (w : World) (bg : Nat) (h : w.cell? ⟨bg, 8, none⟩ = some (.slice none 0 0)) :
    Calls Tryd.prog 43 #[.pointer (some ⟨bg, 0, none⟩)] w fun e w' => e = .returned (.bool true) ∧ w = w' := by
  go_enter Tryd.func43, Tryd.ntmps43
  go_wp2
  go_loop [3] (fun i => i = .int .i64 0) (fun _ => 0)
  case atStart => rfl
  case round =>
    subst hrel
    go_wp2
    go_loop [6, 7] (fun v i => v = .slice none 0 0 ∧ i = .int .i64 0) (fun _ _ => 0)
    case atStart => exact ⟨rfl, rfl⟩
    case round =>
      obtain ⟨rfl, rfl⟩ := hrel
      go_wp2
      go_loop [10] (fun i => i = .int .i64 0) (fun _ => 0)
      case atStart => rfl
      case round =>
        subst hrel
        go_wp2
        go_ret
        exact ⟨rfl, rfl⟩

set_option maxRecDepth 100000 in
theorem apartInstrs_nil (w : World) (bg : Nat) (h : w.cell? ⟨bg, 9, none⟩ = some (.slice none 0 0)) :
    Calls Tryd.prog 44 #[.pointer (some ⟨bg, 0, none⟩)] w fun e w' => e = .returned (.bool true) ∧ w = w' := by
  go_enter Tryd.func44, Tryd.ntmps44
  go_wp2
  go_loop [3] (fun i => i = .int .i64 0) (fun _ => 0)
  case atStart => rfl
  case round =>
    subst hrel
    go_wp2
    go_loop [6, 7] (fun v i => v = .slice none 0 0 ∧ i = .int .i64 0) (fun _ _ => 0)
    case atStart => exact ⟨rfl, rfl⟩
    case round =>
      obtain ⟨rfl, rfl⟩ := hrel
      go_wp2
      go_loop [10] (fun i => i = .int .i64 0) (fun _ => 0)
      case atStart => rfl
      case round =>
        subst hrel
        go_wp2
        go_ret
        exact ⟨rfl, rfl⟩

set_option maxRecDepth 100000 in
theorem apartFaults_nil (w : World) (bg : Nat) (h : w.cell? ⟨bg, 10, none⟩ = some (.slice none 0 0)) :
    Calls Tryd.prog 45 #[.pointer (some ⟨bg, 0, none⟩)] w fun e w' => e = .returned (.bool true) ∧ w = w' := by
  go_enter Tryd.func45, Tryd.ntmps45
  go_wp2
  go_loop [3] (fun i => i = .int .i64 0) (fun _ => 0)
  case atStart => rfl
  case round =>
    subst hrel
    go_wp2
    go_loop [6, 7] (fun v i => v = .slice none 0 0 ∧ i = .int .i64 0) (fun _ _ => 0)
    case atStart => exact ⟨rfl, rfl⟩
    case round =>
      obtain ⟨rfl, rfl⟩ := hrel
      go_wp2
      go_loop [10] (fun i => i = .int .i64 0) (fun _ => 0)
      case atStart => rfl
      case round =>
        subst hrel
        go_wp2
        go_ret
        exact ⟨rfl, rfl⟩

set_option maxRecDepth 100000 in
theorem apartNotes_nil (w : World) (bg : Nat) (h : w.cell? ⟨bg, 11, none⟩ = some (.slice none 0 0)) :
    Calls Tryd.prog 46 #[.pointer (some ⟨bg, 0, none⟩)] w fun e w' => e = .returned (.bool true) ∧ w = w' := by
  go_enter Tryd.func46, Tryd.ntmps46
  go_wp2
  go_loop [3] (fun i => i = .int .i64 0) (fun _ => 0)
  case atStart => rfl
  case round =>
    subst hrel
    go_wp2
    go_loop [6, 7] (fun v i => v = .slice none 0 0 ∧ i = .int .i64 0) (fun _ _ => 0)
    case atStart => exact ⟨rfl, rfl⟩
    case round =>
      obtain ⟨rfl, rfl⟩ := hrel
      go_wp2
      go_loop [10] (fun i => i = .int .i64 0) (fun _ => 0)
      case atStart => rfl
      case round =>
        subst hrel
        go_wp2
        go_ret
        exact ⟨rfl, rfl⟩

set_option maxRecDepth 100000 in
theorem apartParts_nil (w : World) (bg : Nat) (h : w.cell? ⟨bg, 12, none⟩ = some (.slice none 0 0)) :
    Calls Tryd.prog 47 #[.pointer (some ⟨bg, 0, none⟩)] w fun e w' => e = .returned (.bool true) ∧ w = w' := by
  go_enter Tryd.func47, Tryd.ntmps47
  go_wp2
  go_loop [3] (fun i => i = .int .i64 0) (fun _ => 0)
  case atStart => rfl
  case round =>
    subst hrel
    go_wp2
    go_loop [6, 7] (fun v i => v = .slice none 0 0 ∧ i = .int .i64 0) (fun _ _ => 0)
    case atStart => exact ⟨rfl, rfl⟩
    case round =>
      obtain ⟨rfl, rfl⟩ := hrel
      go_wp2
      go_loop [10] (fun i => i = .int .i64 0) (fun _ => 0)
      case atStart => rfl
      case round =>
        subst hrel
        go_wp2
        go_ret
        exact ⟨rfl, rfl⟩

set_option maxRecDepth 100000 in
theorem apartRows_nil (w : World) (bg : Nat) (h : w.cell? ⟨bg, 13, none⟩ = some (.slice none 0 0)) :
    Calls Tryd.prog 48 #[.pointer (some ⟨bg, 0, none⟩)] w fun e w' => e = .returned (.bool true) ∧ w = w' := by
  go_enter Tryd.func48, Tryd.ntmps48
  go_wp2
  go_loop [3] (fun i => i = .int .i64 0) (fun _ => 0)
  case atStart => rfl
  case round =>
    subst hrel
    go_wp2
    go_loop [6, 7] (fun v i => v = .slice none 0 0 ∧ i = .int .i64 0) (fun _ _ => 0)
    case atStart => exact ⟨rfl, rfl⟩
    case round =>
      obtain ⟨rfl, rfl⟩ := hrel
      go_wp2
      go_loop [10] (fun i => i = .int .i64 0) (fun _ => 0)
      case atStart => rfl
      case round =>
        subst hrel
        go_wp2
        go_ret
        exact ⟨rfl, rfl⟩

set_option maxRecDepth 100000 in
theorem apartIntss_nil (w : World) (bg : Nat) (h : w.cell? ⟨bg, 14, none⟩ = some (.slice none 0 0)) :
    Calls Tryd.prog 49 #[.pointer (some ⟨bg, 0, none⟩)] w fun e w' => e = .returned (.bool true) ∧ w = w' := by
  go_enter Tryd.func49, Tryd.ntmps49
  go_wp2
  go_loop [3] (fun i => i = .int .i64 0) (fun _ => 0)
  case atStart => rfl
  case round =>
    subst hrel
    go_wp2
    go_loop [6, 7] (fun v i => v = .slice none 0 0 ∧ i = .int .i64 0) (fun _ _ => 0)
    case atStart => exact ⟨rfl, rfl⟩
    case round =>
      obtain ⟨rfl, rfl⟩ := hrel
      go_wp2
      go_loop [10] (fun i => i = .int .i64 0) (fun _ => 0)
      case atStart => rfl
      case round =>
        subst hrel
        go_wp2
        go_ret
        exact ⟨rfl, rfl⟩

set_option maxRecDepth 100000 in
theorem apartSpanss_nil (w : World) (bg : Nat) (h : w.cell? ⟨bg, 15, none⟩ = some (.slice none 0 0)) :
    Calls Tryd.prog 50 #[.pointer (some ⟨bg, 0, none⟩)] w fun e w' => e = .returned (.bool true) ∧ w = w' := by
  go_enter Tryd.func50, Tryd.ntmps50
  go_wp2
  go_loop [3] (fun i => i = .int .i64 0) (fun _ => 0)
  case atStart => rfl
  case round =>
    subst hrel
    go_wp2
    go_loop [6, 7] (fun v i => v = .slice none 0 0 ∧ i = .int .i64 0) (fun _ _ => 0)
    case atStart => exact ⟨rfl, rfl⟩
    case round =>
      obtain ⟨rfl, rfl⟩ := hrel
      go_wp2
      go_loop [10] (fun i => i = .int .i64 0) (fun _ => 0)
      case atStart => rfl
      case round =>
        subst hrel
        go_wp2
        go_ret
        exact ⟨rfl, rfl⟩

set_option maxRecDepth 100000 in
theorem apartPieces_nil (w : World) (bg : Nat) (h : w.cell? ⟨bg, 16, none⟩ = some (.slice none 0 0)) :
    Calls Tryd.prog 51 #[.pointer (some ⟨bg, 0, none⟩)] w fun e w' => e = .returned (.bool true) ∧ w = w' := by
  go_enter Tryd.func51, Tryd.ntmps51
  go_wp2
  go_loop [3] (fun i => i = .int .i64 0) (fun _ => 0)
  case atStart => rfl
  case round =>
    subst hrel
    go_wp2
    go_loop [6, 7] (fun v i => v = .slice none 0 0 ∧ i = .int .i64 0) (fun _ _ => 0)
    case atStart => exact ⟨rfl, rfl⟩
    case round =>
      obtain ⟨rfl, rfl⟩ := hrel
      go_wp2
      go_loop [10] (fun i => i = .int .i64 0) (fun _ => 0)
      case atStart => rfl
      case round =>
        subst hrel
        go_wp2
        go_ret
        exact ⟨rfl, rfl⟩

set_option maxRecDepth 100000 in
theorem apartFiles_nil (w : World) (bg : Nat) (h : w.cell? ⟨bg, 17, none⟩ = some (.slice none 0 0)) :
    Calls Tryd.prog 52 #[.pointer (some ⟨bg, 0, none⟩)] w fun e w' => e = .returned (.bool true) ∧ w = w' := by
  go_enter Tryd.func52, Tryd.ntmps52
  go_wp2
  go_loop [3] (fun i => i = .int .i64 0) (fun _ => 0)
  case atStart => rfl
  case round =>
    subst hrel
    go_wp2
    go_loop [6, 7] (fun v i => v = .slice none 0 0 ∧ i = .int .i64 0) (fun _ _ => 0)
    case atStart => exact ⟨rfl, rfl⟩
    case round =>
      obtain ⟨rfl, rfl⟩ := hrel
      go_wp2
      go_loop [10] (fun i => i = .int .i64 0) (fun _ => 0)
      case atStart => rfl
      case round =>
        subst hrel
        go_wp2
        go_ret
        exact ⟨rfl, rfl⟩

set_option maxRecDepth 100000 in
theorem apartCmds_nil (w : World) (bg : Nat) (h : w.cell? ⟨bg, 18, none⟩ = some (.slice none 0 0)) :
    Calls Tryd.prog 53 #[.pointer (some ⟨bg, 0, none⟩)] w fun e w' => e = .returned (.bool true) ∧ w = w' := by
  go_enter Tryd.func53, Tryd.ntmps53
  go_wp2
  go_loop [3] (fun i => i = .int .i64 0) (fun _ => 0)
  case atStart => rfl
  case round =>
    subst hrel
    go_wp2
    go_loop [6, 7] (fun v i => v = .slice none 0 0 ∧ i = .int .i64 0) (fun _ _ => 0)
    case atStart => exact ⟨rfl, rfl⟩
    case round =>
      obtain ⟨rfl, rfl⟩ := hrel
      go_wp2
      go_loop [10] (fun i => i = .int .i64 0) (fun _ => 0)
      case atStart => rfl
      case round =>
        subst hrel
        go_wp2
        go_ret
        exact ⟨rfl, rfl⟩
end Go.Proofs.YtfmcjmkdlldlhaaDoor

namespace Go.Proofs.YtfmcjmkdlldlhaaDoor
open Go.RowKit

theorem infoL : (Tryd.prog.info? 25).map (fun i => (i.zero, i.size, i.bytes)) = some (some (.slice none 0 0), 1, 24) := by kernel_rfl

/-- append(list, y): one more element of a list of lists of bytes. -/
theorem append_l1 {ops : Array Oper} {rest : List Oper} {o : Oper} {a : Act} {w : World} {Q : Exit → Act → World → Prop} (hgd : o.guard = none) (s x : Operand)
    (ho : o.op = .call { callee := .builtin .append, args := #[s, x], argTypes := #[45, 45] })
    (base : Nat) (v : Value) (n : Nat) (us : List Value) (y : Value) (hs : a.eval s = v) (hown : w.ownsRow base 25 1 v n us) (hx : a.eval x = .slice (some ⟨w.heap.size, 0, none⟩) 1 1) (hy : y.oneCell' = true) (hsum : n + 1 ≤ 5864062014805) (hbase : base ≤ w.heap.size)
    (h : ∀ v' w', w'.ownsRow base 25 1 v' (n + 1) (us ++ [y]) → w'.ownsRow base 25 1 v n us → AppPost w w' base v v' → wpList Tryd.prog ops Q rest (a.put o.dst v') w') :
    wpList Tryd.prog ops Q (o :: rest) a (w.alloc (.cells #[y] 25)) := by
  obtain ⟨i0, hi, hz0, hz1, hz2⟩ := info_parts infoL
  exact append_new hgd s x 45 25 i0 (.slice none 0 0) 1 24 ho Tryd.underlying45 hi hz0 hz1 hz2 rfl (by decide) base v n us hs hown 1 [y] #[y] rfl rfl (fun u hu => by simp at hu; subst hu; exact hy) hx (by unfold maxLen; omega) (by omega) hbase h
/-- append(l, y): one more byte; the old list stays. -/
theorem append_u1 {ops : Array Oper} {rest : List Oper} {o : Oper} {a : Act} {w : World} {Q : Exit → Act → World → Prop} (hgd : o.guard = none) (s x : Operand)
    (ho : o.op = .call { callee := .builtin .append, args := #[s, x], argTypes := #[25, 25] })
    (base : Nat) (v : Value) (n : Nat) (us : List Value) (y : Int) (hs : a.eval s = v) (hown : w.ownsRow base 5 1 v n us) (hx : a.eval x = .slice (some ⟨w.heap.size, 0, none⟩) 1 1) (hsum : n + 1 ≤ 140737488355328) (hbase : base ≤ w.heap.size)
    (h : ∀ v' w', w'.ownsRow base 5 1 v' (n + 1) (us ++ [.int .u8 y]) → w'.ownsRow base 5 1 v n us → AppPost w w' base v v' → wpList Tryd.prog ops Q rest (a.put o.dst v') w') :
    wpList Tryd.prog ops Q (o :: rest) a (w.alloc (.cells #[.int .u8 y] 5)) := by
  obtain ⟨i0, hi, hz0, hz1, hz2⟩ := info_parts infoB
  exact append_new hgd s x 25 5 i0 (.int .u8 0) 1 1 ho Tryd.underlying25 hi hz0 hz1 hz2 rfl (by decide) base v n us hs hown 1 [.int .u8 y] #[.int .u8 y] rfl rfl (fun u hu => by simp at hu; subst hu; rfl) hx (by unfold maxLen; omega) (by omega) hbase h

/-- The block of a bag: its lists' heads. -/
def BagAt (w : World) (bg : Nat) (fs : List Value) : Prop := w.heap[bg]? = some (.cells fs.toArray 65 (0, 0))
theorem BagAt.lt {w : World} {bg : Nat} {fs : List Value} (h : BagAt w bg fs) : bg < w.heap.size := (Array.getElem?_eq_some_iff.1 h).1
theorem BagAt.cell {w : World} {bg : Nat} {fs : List Value} (h : BagAt w bg fs) (i : Nat) : w.cell? ⟨bg, i, none⟩ = fs[i]? := by
  rw [cell_of_row w bg i _ _ (0, 0) h]; simp
theorem BagAt.frozen {w : World} {bg : Nat} {fs : List Value} (h : BagAt w bg fs) (i : Nat) : w.frozen? ⟨bg, i, none⟩ = false := frozen_of_row w bg i _ _ h
theorem BagAt.set {w : World} {bg : Nat} {fs : List Value} (h : BagAt w bg fs) (i : Nat) (v : Value) : BagAt (w.setCell ⟨bg, i, none⟩ v) bg (fs.set i v) := by
  unfold BagAt
  rw [heap_setCell_same w bg i _ _ v h]
  simp
theorem BagAt.keepT {w w' : World} {bg : Nat} {fs : List Value} (h : BagAt w bg fs) (hk : KeepT 65 w w') : BagAt w' bg fs := (hk bg _ h).trans h
theorem keepT_bag {e : TypeId} {w : World} {bg i : Nat} {fs : List Value} (h : BagAt w bg fs) (hne : e ≠ 65) (u : Value) : KeepT e w (w.setCell ⟨bg, i, none⟩ u) := fun k cur hk =>
  heap_setCell_other w ⟨bg, i, none⟩ k u fun e2 => by
    simp only at e2
    subst e2
    unfold BagAt at h
    rw [hk] at h
    simp only [Option.some.injEq, Obj.cells.injEq] at h
    exact hne h.2.1
theorem neUL : (5 : TypeId) ≠ 25 := by decide
theorem neUG : (5 : TypeId) ≠ 65 := by decide
theorem neLG : (25 : TypeId) ≠ 65 := by decide

/-! ### What the three lists of lists hold -/
structure Lst (w : World) (base : Nat) (bv ov mv : Value) (m p q : Nat) (vs ones mores : Nat → Value) : Prop where
  b : w.ownsRow base 25 1 bv m (firstN vs m)
  o : w.ownsRow base 25 1 ov p (firstN ones p)
  m : w.ownsRow base 25 1 mv q (firstN mores q)
  bo : Apart ov bv
  bm : Apart mv bv
  om : Apart ov mv
section
variable {w w' : World} {base : Nat} {bv ov mv ov' mv' l : Value} {m p q : Nat} {vs ones mores : Nat → Value}
theorem Lst.keepT (h : Lst w base bv ov mv m p q vs ones mores) (hk : KeepT 25 w w') : Lst w' base bv ov mv m p q vs ones mores := { h with b := hk.own h.b, o := hk.own h.o, m := hk.own h.m }
theorem Lst.congr {ones' : Nat → Value} (h : Lst w base bv ov mv m p q vs ones mores) (he : ∀ k, k < p → ones k = ones' k) : Lst w base bv ov mv m p q vs ones' mores := { h with o := by rw [← firstN_congr he]; exact h.o }
theorem Lst.one (h : Lst w base bv ov mv m p q vs ones mores) (ho : w'.ownsRow base 25 1 ov' (p + 1) (firstN ones p ++ [l])) (hp : AppPost w w' base ov ov') : Lst w' base bv ov' mv m (p + 1) q vs (fun k => if k = p then l else ones k) mores := by
  have h1 := hp.other base _ _ _ bv _ h.b h.bo
  have h2 := hp.other base _ _ _ mv _ h.m h.om
  exact ⟨h1.1, by rw [← firstN_snoc]; exact ho, h2.1, h1.2, h.bm, h2.2⟩
theorem Lst.more (h : Lst w base bv ov mv m p q vs ones mores) (ho : w'.ownsRow base 25 1 mv' (q + 1) (firstN mores q ++ [l])) (hp : AppPost w w' base mv mv') : Lst w' base bv ov mv' m p (q + 1) vs ones (fun k => if k = q then l else mores k) := by
  have h1 := hp.other base _ _ _ bv _ h.b h.bm
  have h2 := hp.other base _ _ _ ov _ h.o h.om.symm
  exact ⟨h1.1, h2.1, by rw [← firstN_snoc]; exact ho, h.bo, h1.2, h2.2.symm⟩
end

/-- What stays while a bag is looked at. -/
structure Fr (w wr : World) (base bg : Nat) : Prop where
  bag : wr.heap[bg]? = w.heap[bg]?
  bel : ∀ B w0, Below B w0 w → B ≤ base → Below B w0 wr
  size : w.heap.size ≤ wr.heap.size
theorem Fr.refl (w : World) (base bg : Nat) : Fr w w base bg := ⟨rfl, fun _ _ h _ => h, Nat.le_refl _⟩
theorem Fr.at_ {w wr : World} {base bg : Nat} {fs : List Value} (h : Fr w wr base bg) (hb : BagAt w bg fs) : BagAt wr bg fs := h.bag.trans hb
theorem Fr.app {w wr w' : World} {base bg b2 s n : Nat} {e : TypeId} {v v' : Value} {xs fs : List Value} (h : Fr w wr base bg) (hb : BagAt w bg fs) (hv : wr.ownsRow b2 e s v n xs) (hne : e ≠ 65) (hp : AppPost wr w' base v v') : Fr w w' base bg :=
  ⟨((KeepT.of_app hv hp hne) bg _ (h.at_ hb)).trans h.bag, fun B w0 h0 hB => hp.bel B w0 (h.bel B w0 h0 hB) hB, Nat.le_trans h.size hp.size⟩
theorem Fr.cell {w wr : World} {base bg g i : Nat} (h : Fr w wr base bg) (hg : base ≤ g) (hne : g ≠ bg) (u : Value) : Fr w (wr.setCell ⟨g, i, none⟩ u) base bg :=
  ⟨(heap_setCell_other wr ⟨g, i, none⟩ bg u (fun e => hne e.symm)).trans h.bag, fun B w0 h0 hB => (h.bel B w0 h0 hB).setCell (by show B ≤ g; omega) u, by simpa using h.size⟩

/-- The same, with other blocks that stay. -/
structure FrT (w wr : World) (base bg : Nat) (T : Nat → Prop) : Prop where
  bag : wr.heap[bg]? = w.heap[bg]?
  bel : ∀ B w0, Below B w0 w → B ≤ base → Below B w0 wr
  size : w.heap.size ≤ wr.heap.size
  lt : ∀ k, T k → k < w.heap.size
  kept : ∀ k, T k → wr.heap[k]? = w.heap[k]?
theorem FrT.fr {w wr : World} {base bg : Nat} {T : Nat → Prop} (h : FrT w wr base bg T) : Fr w wr base bg := ⟨h.bag, h.bel, h.size⟩
theorem FrT.refl (w : World) (base bg : Nat) (T : Nat → Prop) (hT : ∀ k, T k → k < w.heap.size) : FrT w w base bg T := ⟨rfl, fun _ _ h _ => h, Nat.le_refl _, hT, fun _ _ => rfl⟩
theorem FrT.at_ {w wr : World} {base bg : Nat} {T : Nat → Prop} {fs : List Value} (h : FrT w wr base bg T) (hb : BagAt w bg fs) : BagAt wr bg fs := h.bag.trans hb
/-- A list lies in none of these blocks. -/
def FarT (T : Nat → Prop) (v : Value) : Prop := ∀ k, T k → v.ownBlock ≠ some k
theorem FarT.nil (T : Nat → Prop) : FarT T (.slice none 0 0) := fun k _ h => by simp [Value.ownBlock] at h
theorem FarT.app {T : Nat → Prop} {w wr w' : World} {base bg b2 : Nat} {v v' : Value} (h : FarT T v) (hF : FrT w wr base bg T) (hp : AppPost wr w' b2 v v') : FarT T v' := fun k hk e => by
  rcases hp.new k e with e | e
  · exact h k hk e
  · have := hF.lt k hk; have := hF.size; omega
theorem FrT.app {w wr w' : World} {base bg b2 s n : Nat} {T : Nat → Prop} {e : TypeId} {v v' : Value} {xs fs : List Value} (h : FrT w wr base bg T) (hb : BagAt w bg fs) (hv : wr.ownsRow b2 e s v n xs) (hne : e ≠ 65) (hp : AppPost wr w' base v v') (hT : FarT T v) : FrT w w' base bg T :=
  ⟨((KeepT.of_app hv hp hne) bg _ (h.at_ hb)).trans h.bag, fun B w0 h0 hB => hp.bel B w0 (h.bel B w0 h0 hB) hB, Nat.le_trans h.size hp.size, h.lt, fun k hk => (hp.block k (Nat.lt_of_lt_of_le (h.lt k hk) h.size) (hT k hk)).trans (h.kept k hk)⟩
theorem FrT.cell {w wr : World} {base bg g i : Nat} {T : Nat → Prop} (h : FrT w wr base bg T) (hg : base ≤ g) (hne : g ≠ bg) (u : Value) (hT : ¬ T g) : FrT w (wr.setCell ⟨g, i, none⟩ u) base bg T :=
  ⟨(heap_setCell_other wr ⟨g, i, none⟩ bg u (fun e => hne e.symm)).trans h.bag, fun B w0 h0 hB => (h.bel B w0 h0 hB).setCell (by show B ≤ g; omega) u, by simpa using h.size, h.lt, fun k hk => (heap_setCell_other wr ⟨g, i, none⟩ k u (fun e => hT (by have e : k = g := e; rw [← e]; exact hk))).trans (h.kept k hk)⟩

/-- The mark of a byte. -/
def mkB (n i : Nat) : Int := IntKind.u8.wrap (31 * (n : Int) + 7 * (i : Int) + 3)
def mkBs (n i : Nat) : List Value := [.int .u8 (mkB n i)]
theorem mkBs_len (n i : Nat) : (mkBs n i).length = 1 := rfl
theorem mkB_at (n q i : Nat) (h : i < q) : (marks mkBs n q)[i]? = some (.int .u8 (mkB n i)) := by
  have := marks_at mkBs mkBs_len n q i 0 h Nat.one_pos
  simpa [mkBs] using this
/-- The contents while list n is being written, i elements of it. -/
def half (n i : Nat) (len : Nat → Nat) (C : Nat → List Value) (k : Nat) : List Value := if k < n then marks mkBs k (len k) else if k = n then marks mkBs n i ++ (C n).drop i else C k
theorem half_next (n : Nat) (len : Nat → Nat) (C : Nat → List Value) (hl : (C n).length = len n) : half n (len n) len C = half (n + 1) 0 len C := by
  funext k
  unfold half
  by_cases h1 : k < n
  · rw [if_pos h1, if_pos (by omega)]
  · rw [if_neg h1]
    by_cases h2 : k = n
    · subst h2
      rw [if_pos rfl, if_pos (by omega), List.drop_of_length_le (by omega), List.append_nil]
    · rw [if_neg h2, if_neg (by omega)]
      by_cases h3 : k = n + 1
      · subst h3; rw [if_pos rfl]; rfl
      · rw [if_neg h3]
theorem half_zero (len : Nat → Nat) (C : Nat → List Value) : half 0 0 len C = C := by
  funext k
  unfold half
  rw [if_neg (by omega)]
  split
  · subst_vars; rfl
  · rfl
theorem half_self (n i : Nat) (len : Nat → Nat) (C : Nat → List Value) : half n i len C n = marks mkBs n i ++ (C n).drop i := by unfold half; rw [if_neg (by omega), if_pos rfl]
theorem half_set (n i : Nat) (len : Nat → Nat) (C : Nat → List Value) (hi : i < (C n).length) : (half n i len C n).set i (.int .u8 (mkB n i)) = half n (i + 1) len C n := by
  rw [half_self, half_self, marks_succ, List.set_append, marks_len mkBs mkBs_len]
  rw [if_neg (by omega), Nat.mul_one, Nat.sub_self, List.drop_eq_getElem_cons hi, List.set_cons_zero, List.append_assoc]
  rfl
theorem half_other (n i : Nat) (len : Nat → Nat) (C : Nat → List Value) (k : Nat) (h : k ≠ n) : half n i len C k = half n (i + 1) len C k := by
  unfold half
  by_cases h1 : k < n
  · rw [if_pos h1, if_pos h1]
  · rw [if_neg h1, if_neg h1, if_neg h, if_neg h]
theorem half_all (m : Nat) (len : Nat → Nat) (C : Nat → List Value) (k : Nat) (h : k < m) : half m 0 len C k = marks mkBs k (len k) := by unfold half; rw [if_pos h]
/-- A byte is written into list n. -/
theorem Bags.put {w : World} {base m n i g cap : Nat} {vs : Nat → Value} {len : Nat → Nat} {C : Nat → List Value} (h : Bags w base 5 1 m vs len (half n i len C)) (hn : n < m) (hv : vs n = .slice (some ⟨g, 0, none⟩) (len n) cap) (hi : i < (C n).length) :
    Bags (w.setCell ⟨g, i, none⟩ (.int .u8 (mkB n i))) base 5 1 m vs len (half n (i + 1) len C) := by
  have h0 := h.own n hn
  rw [hv] at h0
  obtain ⟨h1, h2⟩ := World.ownsRow.stored h0 i (.int .u8 (mkB n i))
  rw [half_set n i len C hi, ← hv] at h1
  refine ⟨fun k hk => ?_, h.ap⟩
  by_cases e : k = n
  · subst e; exact h1
  · rw [← half_other n i len C k e]
    refine World.ownsRow.kept (h.own k hk) h2 ?_
    by_cases hb : (vs k).ownBlock = some g
    · exact absurd (by rw [hv]; rfl) (h.ap k n hk hn e g hb)
    · exact .inr hb
theorem Bags.keep_lists {w : World} {base m n i g cap : Nat} {vs : Nat → Value} {len : Nat → Nat} {C : Nat → List Value} (h : Bags w base 5 1 m vs len C) (hn : n < m) (hv : vs n = .slice (some ⟨g, 0, none⟩) (len n) cap) (u : Value) : KeepT 25 w (w.setCell ⟨g, i, none⟩ u) ∧ base ≤ g ∧ (∀ fs bg, BagAt w bg fs → g ≠ bg) := by
  have h0 := h.own n hn
  rw [hv] at h0
  rcases h0.2 with ⟨h1, _⟩ | ⟨g', cap', cur, h1, hb, hg, _⟩
  · simp at h1
  · simp only [Value.slice.injEq, Option.some.injEq, Addr.mk.injEq, and_true, true_and] at h1
    obtain ⟨rfl, rfl⟩ := h1
    refine ⟨fun k cur' hk => heap_setCell_other w ⟨g, i, none⟩ k u (fun e => ?_), hb, fun fs bg hbg e => ?_⟩
    · simp only at e
      subst e
      rw [hg] at hk
      simp only [Option.some.injEq, Obj.cells.injEq] at hk
      exact neUL hk.2.1
    · subst e
      unfold BagAt at hbg
      rw [hg] at hbg
      simp only [Option.some.injEq, Obj.cells.injEq] at hbg
      exact neUG hbg.2.1

theorem row_cell {w : World} {base n cap g : Nat} {e : TypeId} {us : List Value} (h : w.ownsRow base e 1 (.slice (some ⟨g, 0, none⟩) n cap) n us) (k : Nat) (hk : k < n) : w.cell? ⟨g, k, none⟩ = us[k]? := World.ownsRow.cellAt h k (by omega)
theorem own_someG {w : World} {base n : Nat} {e : TypeId} {v : Value} {us : List Value} (h : w.ownsRow base e 1 v n us) (hn : 0 < n) : ∃ g cap, v = .slice (some ⟨g, 0, none⟩) n cap ∧ n ≤ cap := by
  rcases h.2 with ⟨_, h0⟩ | ⟨g, cap, cur, rfl, _, _, hc, _⟩
  · omega
  · exact ⟨g, cap, rfl, hc⟩
end Go.Proofs.YtfmcjmkdlldlhaaDoor

namespace Go.Proofs.YtfmcjmkdlldlhaaDoor
open Go.RowKit

/-- What AddBytes leaves. -/
structure Added (w w' : World) (base bg : Nat) (bv bv' : Value) (us : List Value) (rest : List Value) (u : Value) : Prop where
  bag : BagAt w' bg (bv' :: rest)
  own : w'.ownsRow base 25 1 bv' (us.length + 1) (us ++ [u])
  keep : KeepT 5 w w'
  blk : ∀ k, k < w.heap.size → k ≠ bg → bv.ownBlock ≠ some k → w'.heap[k]? = w.heap[k]?
  new : ∀ k, bv'.ownBlock = some k → bv.ownBlock = some k ∨ w.heap.size ≤ k
  bel : ∀ B w0, Below B w0 w → B ≤ base → B ≤ bg → Below B w0 w'
  size : w.heap.size ≤ w'.heap.size
def AddedPost (w : World) (base bg : Nat) (bv : Value) (us rest : List Value) (u : Value) (e : Ending) (w' : World) : Prop := e = .returned undef ∧ ∃ bv', Added w w' base bg bv bv' us rest u

set_option maxRecDepth 100000 in
set_option maxHeartbeats 2000000 in
theorem apartBytes_T (T : Nat → Prop) (w : World) (base bg m : Nat) (bv : Value) (rest : List Value) (vs : Nat → Value) (len : Nat → Nat) (C : Nat → List Value) (hbag : BagAt w bg (bv :: rest)) (hbv : w.ownsRow base 25 1 bv m (firstN vs m)) (hm : m ≤ 400) (hB : Bags w base 5 1 m vs len C)
    (hlen : ∀ k, k < m → len k ≤ 140737488351232) (hbase : base ≤ w.heap.size) (hT : ∀ k, T k → k < w.heap.size) (hTV : ∀ j, j < m → FarT T (vs j)) :
    Calls Tryd.prog 35 #[.pointer (some ⟨bg, 0, none⟩)] w fun e w' => e = .returned (.bool true) ∧ FrT w w' base bg T := by
  obtain ⟨bb, bc, rfl⟩ := own_shape hbv
  have HBAG := Lib.hid hbag
  have HBV := Lib.hid hbv
  have HLEN := Lib.hid hlen
  have HTV := Lib.hid hTV
  have hCl : ∀ k, k < m → (C k).length = len k := fun k hk => by have := (hB.own k hk).1; omega
  have HCL := Lib.hid hCl
  have hB0 : Bags w base 5 1 m vs len (half 0 0 len C) := by rw [half_zero]; exact hB
  clear hbag hbv hlen hCl hB hTV
  go_enter Tryd.func35, Tryd.ntmps35
  go_wp2
  go_loopw [3] (fun v3 wr => ∃ n : Nat, n ≤ m ∧ v3 = .int .i64 n ∧ Bags wr base 5 1 m vs len (half n 0 len C) ∧ wr.ownsRow base 25 1 (.slice bb m bc) m (firstN vs m) ∧ FrT w wr base bg T) (fun v3 _ => m - (intOf v3).toNat)
  case atStart => exact ⟨0, Nat.zero_le _, rfl, hB0, HBV.out, FrT.refl _ _ _ _ hT⟩
  case round =>
    obtain ⟨n, hn, rfl, hBn, hbv, hF⟩ := hrel
    have hc0 : wr.cell? ⟨bg, 0, none⟩ = some (.slice bb m bc) := (hF.at_ HBAG.out).cell 0
    by_cases hlt : n < m
    · have hd1 : decide ((n : Int) < (m : Int)) = true := by simp; omega
      obtain ⟨gb, cb, he, hmc⟩ := own_someG hbv (by omega)
      simp only [Value.slice.injEq] at he
      obtain ⟨rfl, -, rfl⟩ := he
      have hgbb := hF.at_ HBAG.out
      have hcn : wr.cell? ⟨gb, n, none⟩ = some (vs n) := (row_cell hbv n hlt).trans (firstN_at vs m n hlt)
      obtain ⟨an, cn, hvn⟩ := own_shape (hBn.own n hlt)
      rw [hvn] at hcn
      have hln := HLEN.out n hlt
      have HVN := Lib.hid hvn
      have HB1 := Lib.hid hBn
      have HBV1 := Lib.hid hbv
      have HF1 := Lib.hid hF
      obtain ⟨ln, hlnn⟩ : ∃ q, len n = q := ⟨_, rfl⟩
      have HLN := Lib.hid hlnn
      rw [hlnn] at hln hcn
      clear hBn hbv hF hB0 hvn hlnn hgbb
      go_wp2_with fail
      rename World => w1
      go_loopw [4] (fun v4 wr => ∃ i : Nat, i ≤ ln ∧ v4 = .int .i64 i ∧ Bags wr base 5 1 m vs len (half n i len C) ∧ wr.ownsRow base 25 1 (.slice (some ⟨gb, 0, none⟩) m bc) m (firstN vs m) ∧ FrT w wr base bg T) (fun v4 _ => ln - (intOf v4).toNat)
      case atStart => exact ⟨0, Nat.zero_le _, rfl, HB1.out, HBV1.out, HF1.out⟩
      case round =>
        obtain ⟨i, hi, rfl, hBn, hbv, hF⟩ := hrel
        clear hc0 hcn
        have hc0 : wr.cell? ⟨bg, 0, none⟩ = some (.slice (some ⟨gb, 0, none⟩) m bc) := (hF.at_ HBAG.out).cell 0
        have hcn : wr.cell? ⟨gb, n, none⟩ = some (.slice an ln cn) := by
          rw [← HLN.out, ← HVN.out]
          exact (row_cell hbv n hlt).trans (firstN_at vs m n hlt)
        by_cases hil : i < ln
        · have hown := hBn.own n hlt
          rw [HVN.out, HLN.out] at hown
          obtain ⟨gn, cn', he, hnc⟩ := own_someG hown (by omega)
          simp only [Value.slice.injEq] at he
          obtain ⟨rfl, -, rfl⟩ := he
          have hCn : i < (C n).length := by rw [HCL.out n hlt, HLN.out]; exact hil
          have hput := hBn.put hlt (by rw [HVN.out]) hCn
          obtain ⟨k1, k2, k3⟩ := hBn.keep_lists (i := i) hlt (by rw [HVN.out]) (.int .u8 (mkB n i))
          have hce : ∃ x, wr.cell? ⟨gn, i, none⟩ = some x := ⟨_, (World.ownsRow.cellAt hown i (by omega)).trans (List.getElem?_eq_getElem (by rw [hown.1]; omega))⟩
          obtain ⟨x, hce⟩ := hce
          have hfr := World.ownsRow.frozenAt hown i
          have HR : Hid (Bags (wr.setCell ⟨gn, i, none⟩ (.int .u8 (mkB n i))) base 5 1 m vs len (half n (i + 1) len C) ∧ (wr.setCell ⟨gn, i, none⟩ (.int .u8 (mkB n i))).ownsRow base 25 1 (.slice (some ⟨gb, 0, none⟩) m bc) m (firstN vs m) ∧ FrT w (wr.setCell ⟨gn, i, none⟩ (.int .u8 (mkB n i))) base bg T) :=
            Lib.hid ⟨hput, k1.own hbv, hF.cell k2 (k3 _ _ (hF.at_ HBAG.out)) _ (fun e => HTV.out n hlt gn e (by rw [HVN.out]; rfl))⟩
          have hmk : IntKind.u8.wrap (31 * (n : Int) + 7 * (i : Int) + 3) = mkB n i := rfl
          clear hput k1 k2 k3 hown hBn hbv hF hCn
          go_wp2_with fail
          go_roundw
          case rel => exact ⟨i + 1, by omega, by go_num, HR.out⟩
          case measure => simp [intOf]; omega
        · obtain rfl : i = ln := by omega
          have HR : Hid (Bags wr base 5 1 m vs len (half (n + 1) 0 len C)) := Lib.hid (by
            rw [← half_next n len C (HCL.out n hlt), HLN.out]; exact hBn)
          have HBV2 := Lib.hid hbv
          have HF2 := Lib.hid hF
          clear hBn hbv hF
          go_wp2_with fail
          go_roundw
          case rel => exact ⟨n + 1, by omega, by go_num, HR.out, HBV2.out, HF2.out⟩
          case measure => simp [intOf]; omega
    · obtain rfl : n = m := by omega
      have hG0 : Grown wr base 5 1 n mkBs vs len 0 (fun _ => undef) (fun _ => undef) :=
        ⟨⟨fun k hk => by have := hBn.own k hk; rw [half_all n len C k hk] at this; exact this, hBn.ap⟩, fun k hk => absurd hk (Nat.not_lt_zero _), fun k hk => absurd hk (Nat.not_lt_zero _), fun k _ hk => absurd hk (Nat.not_lt_zero _)⟩
      have hL0 : Lst wr base (.slice bb n bc) (.slice none 0 0) (.slice none 0 0) n 0 0 vs (fun _ => undef) (fun _ => undef) :=
        ⟨hbv, World.ownsRow_nil _ _ _ _, World.ownsRow_nil _ _ _ _, fun k h _ => by simp [Value.ownBlock] at h, fun k h _ => by simp [Value.ownBlock] at h, fun k h _ => by simp [Value.ownBlock] at h⟩
      have HG0 := Lib.hid hG0
      have HL0 := Lib.hid hL0
      have HF0 := Lib.hid hF
      clear hG0 hL0 hF hBn hbv hB0 hlt hn
      rename Nat => m
      go_wp2_with fail
      rename World => w1
      go_loopw [5, 6, 7] (fun v5 v6 v7 wr => ∃ (n : Nat) (ones mores : Nat → Value), n ≤ m ∧ v7 = .int .i64 n ∧ Grown wr base 5 1 m mkBs vs len n ones mores ∧ Lst wr base (.slice bb m bc) v5 v6 m n n vs ones mores ∧ FrT w wr base bg T ∧ FarT T v5 ∧ FarT T v6) (fun _ _ v7 _ => m - (intOf v7).toNat)
      case atStart => exact ⟨0, _, _, Nat.zero_le _, rfl, HG0.out, HL0.out, HF0.out, FarT.nil T, FarT.nil T⟩
      case round =>
        obtain ⟨n, ones, mores, hn, rfl, hG, hL, hF, hT5, hT6⟩ := hrel
        clear hc0
        have hc0 : wr.cell? ⟨bg, 0, none⟩ = some (.slice bb m bc) := (hF.at_ HBAG.out).cell 0
        obtain ⟨a5, c5, rfl⟩ := own_shape hL.o
        obtain ⟨a6, c6, rfl⟩ := own_shape hL.m
        by_cases hlt : n < m
        · have hd1 : decide ((n : Int) < (m : Int)) = true := by simp; omega
          obtain ⟨gb, cb, he, hmc⟩ := own_someG hL.b (by omega)
          simp only [Value.slice.injEq] at he
          obtain ⟨rfl, -, rfl⟩ := he
          have hcn : wr.cell? ⟨gb, n, none⟩ = some (vs n) := (row_cell hL.b n hlt).trans (firstN_at vs m n hlt)
          obtain ⟨an, cn, hvn⟩ := own_shape (hG.b.own n hlt)
          rw [hvn] at hcn
          have hln := HLEN.out n hlt
          have HVN := Lib.hid hvn
          have HG := Lib.hid hG
          have HL := Lib.hid hL
          have HF := Lib.hid hF
          obtain ⟨ln, hlnn⟩ : ∃ q, len n = q := ⟨_, rfl⟩
          have HLN := Lib.hid hlnn
          rw [hlnn] at hln hcn
          have HT56 := Lib.hid (And.intro hT5 hT6)
          have HT8 := Lib.hid (show FarT T (.slice an ln cn) from by rw [← hlnn, ← hvn]; exact HTV.out n hlt)
          have hst := hG.start (o1 := undef) hlt
          rw [hvn, hlnn] at hst
          have HST := Lib.hid hst
          clear hG hL hF hvn hlnn hst hT5 hT6
          go_wp2_with fail
          rename World => w2
          go_loopw [5, 8, 9] (fun v5 v8 v9 wr => ∃ (i : Nat) (o1 : Value), ln ≤ i ∧ i ≤ ln + 70 ∧ v9 = .int .i64 i ∧ Grows wr base 5 1 m mkBs vs len n ones mores i v8 o1 ∧ Lst wr base (.slice (some ⟨gb, 0, none⟩) m bc) v5 (.slice a6 n c6) m (if ln < i then n + 1 else n) n vs (fun k => if k = n then o1 else ones k) mores ∧ FrT w wr base bg T ∧ FarT T v5 ∧ FarT T v8) (fun _ _ v9 _ => ln + 70 - (intOf v9).toNat)
          case atStart => exact ⟨ln, undef, Nat.le_refl _, by omega, rfl, HST.out, by rw [if_neg (Nat.lt_irrefl _)]; exact HL.out.congr (fun k hk => by rw [if_neg (by omega)]), HF.out, HT56.out.1, HT8.out⟩
          case round =>
            obtain ⟨i, o1, hi0, hi1, rfl, hG, hL, hF, hT5, hT8⟩ := hrel
            have HT58 := Lib.hid (And.intro hT5 hT8)
            clear hT5 hT8
            clear hc0 hcn
            have hc0 : wr.cell? ⟨bg, 0, none⟩ = some (.slice (some ⟨gb, 0, none⟩) m bc) := (hF.at_ HBAG.out).cell 0
            have hcn : wr.cell? ⟨gb, n, none⟩ = some (.slice an ln cn) := by
              rw [← HLN.out, ← HVN.out]
              exact (row_cell hL.b n hlt).trans (firstN_at vs m n hlt)
            obtain ⟨a8, c8, rfl⟩ := own_shape hG.own
            have hmk : IntKind.u8.wrap (31 * (n : Int) + 7 * (i : Int) + 3) = mkB n i := rfl
            have hbs : base ≤ wr.heap.size := Nat.le_trans hbase hF.size
            by_cases hil : i < ln + 70
            · have hd2 : decide ((i : Int) < (ln : Int) + 70) = true := by simp; omega
              have hown := hG.own
              have HG := Lib.hid hG
              have HF := Lib.hid hF
              clear hG hF
              by_cases h0 : i = ln
              · have ht : ((i : Int) == (ln : Int)) = true := by simp; omega
                have hlen0 : i = len n := by rw [HLN.out]; exact h0
                rw [if_neg (by omega)] at hL
                obtain ⟨a5', c5', rfl⟩ := own_shape hL.o
                have HL := Lib.hid hL
                have HLE := Lib.hid hlen0
                clear hL hlen0 h0
                go_wp2_with (at_builtin; refine append_u1 rfl (.tmp 82) (.tmp 90) rfl base _ i _ (mkB n i) rfl hown rfl (by omega) hbs ?_)
                intro v' w3 hown' hold hp
                have hG' := HG.out.step Nat.one_pos hlt (Nat.le_of_eq HLE.out.symm) hown' hold hp
                rw [if_pos HLE.out] at hG'
                have hL' := HL.out.keepT (KeepT.of_app hown hp neUL)
                have hF' := HF.out.app HBAG.out hown neUG hp HT58.out.2
                have HT8' := Lib.hid (HT58.out.2.app HF.out hp)
                obtain ⟨a8', c8', rfl⟩ := own_shape hown'
                have hc0 : w3.cell? ⟨bg, 0, none⟩ = some (.slice (some ⟨gb, 0, none⟩) m bc) := (hF'.at_ HBAG.out).cell 0
                have hcn : w3.cell? ⟨gb, n, none⟩ = some (.slice an ln cn) := by
                  rw [← HLN.out, ← HVN.out]
                  exact (row_cell hL'.b n hlt).trans (firstN_at vs m n hlt)
                have hbs' : base ≤ w3.heap.size := Nat.le_trans hbs hp.size
                have ho5 := hL'.o
                have HG' := Lib.hid hG'
                have HL' := Lib.hid hL'
                have HF' := Lib.hid hF'
                clear hG' hL' hF' hown hown' hold hp hbs
                go_wp2_with (at_builtin; refine append_l1 rfl (.tmp 102) (.tmp 104) rfl base _ n _ _ rfl ho5 rfl rfl (by omega) hbs' ?_)
                intro v5' w4 ho5' hold5 hp5
                have hL2 := HL'.out.one ho5' hp5
                have HL2 := Lib.hid (hL2.congr (ones' := fun k => if k = n then .slice a8' (i + 1) c8' else ones k) (fun k hk => by
                  by_cases e : k = n
                  · rw [if_pos e, if_pos e]
                  · rw [if_neg e, if_neg e, if_neg e]))
                have HG2 := Lib.hid (HG'.out.keepT (KeepT.of_app ho5 hp5 neUL.symm))
                have HF2 := Lib.hid (HF'.out.app HBAG.out ho5 neLG hp5 HT58.out.1)
                have HT5' := Lib.hid (HT58.out.1.app HF'.out hp5)
                obtain ⟨a5'', c5'', rfl⟩ := own_shape ho5'
                clear hL2 ho5 ho5' hold5 hp5 hc0 hcn
                go_wp2_with fail
                go_roundw
                case rel => exact ⟨i + 1, _, by omega, by omega, by go_num, HG2.out, by rw [if_pos (by have := HLE.out; have := HLN.out; omega)]; exact HL2.out, HF2.out, HT5'.out, HT8'.out⟩
                case measure => simp [intOf]; omega
              · have ht : ((i : Int) == (ln : Int)) = false := by simp; omega
                have hlen0 : i ≠ len n := by rw [HLN.out]; exact h0
                have hlen1 : len n ≤ i := by rw [HLN.out]; exact hi0
                rw [if_pos (by omega)] at hL
                obtain ⟨a5', c5', rfl⟩ := own_shape hL.o
                have HL := Lib.hid hL
                have HLE := Lib.hid hlen0
                clear hL hlen0
                go_wp2_with (at_builtin; refine append_u1 rfl (.tmp 82) (.tmp 90) rfl base _ i _ (mkB n i) rfl hown rfl (by omega) hbs ?_)
                intro v' w3 hown' hold hp
                have hG' := HG.out.step Nat.one_pos hlt hlen1 hown' hold hp
                rw [if_neg HLE.out] at hG'
                have hL' := HL.out.keepT (KeepT.of_app hown hp neUL)
                have hF' := HF.out.app HBAG.out hown neUG hp HT58.out.2
                have HT8' := Lib.hid (HT58.out.2.app HF.out hp)
                obtain ⟨a8', c8', rfl⟩ := own_shape hown'
                have hc0 : w3.cell? ⟨bg, 0, none⟩ = some (.slice (some ⟨gb, 0, none⟩) m bc) := (hF'.at_ HBAG.out).cell 0
                have hcn : w3.cell? ⟨gb, n, none⟩ = some (.slice an ln cn) := by
                  rw [← HLN.out, ← HVN.out]
                  exact (row_cell hL'.b n hlt).trans (firstN_at vs m n hlt)
                have HG' := Lib.hid hG'
                have HL' := Lib.hid hL'
                have HF' := Lib.hid hF'
                clear hG' hL' hF' hown hown' hold hp hbs hlen1
                go_wp2_with fail
                go_roundw
                case rel => exact ⟨i + 1, _, by omega, by omega, by go_num, HG'.out, by rw [if_pos (by omega)]; exact HL'.out, HF'.out, HT58.out.1, HT8'.out⟩
                case measure => simp [intOf]; omega
            · obtain rfl : i = ln + 70 := by omega
              rw [if_pos (by omega)] at hL
              obtain ⟨a5', c5', rfl⟩ := own_shape hL.o
              have hd2 : decide (((ln + 70 : Nat) : Int) < (ln : Int) + 70) = false := by simp
              have hGd := (show Grows wr base 5 1 m mkBs vs len n ones mores (len n + 70) (.slice a8 (ln + 70) c8) o1 by rw [HLN.out]; exact hG).done hlt
              have hm6 := hL.m
              have HG := Lib.hid hGd
              have HL := Lib.hid hL
              have HF := Lib.hid hF
              clear hGd hG hL hF hil hi1
              go_wp2_with (at_builtin; refine append_l1 rfl (.tmp 106) (.tmp 108) rfl base _ n _ _ rfl hm6 rfl rfl (by omega) hbs ?_)
              intro v6' w3 ho6' hold6 hp6
              have HL2 := Lib.hid (HL.out.more ho6' hp6)
              have HG2 := Lib.hid (HG.out.keepT (KeepT.of_app hm6 hp6 neUL.symm))
              have HF2 := Lib.hid (HF.out.app HBAG.out hm6 neLG hp6 HT56.out.2)
              have HT6' := Lib.hid (HT56.out.2.app HF.out hp6)
              obtain ⟨a6', c6', rfl⟩ := own_shape ho6'
              clear ho6' hold6 hp6 hm6 hc0 hcn
              go_wp2_with fail
              go_roundw
              case rel => exact ⟨n + 1, _, _, by omega, by go_num, HG2.out, HL2.out, HF2.out, HT58.out.1, HT6'.out⟩
              case measure => simp [intOf]; omega
        · obtain rfl : n = m := by omega
          have HG := Lib.hid hG
          have HL := Lib.hid hL
          have HF := Lib.hid hF
          clear hG hL hF hlt hn
          go_wp2_with fail
          go_loop [10] (fun v => ∃ k : Nat, k ≤ n ∧ v = .int .i64 k) (fun v => n - (intOf v).toNat)
          case atStart => exact ⟨0, Nat.zero_le _, rfl⟩
          case round =>
            obtain ⟨k, hk, rfl⟩ := hrel
            by_cases hlt : k < n
            · have hd1 : decide ((k : Int) < (n : Int)) = true := by simp; omega
              obtain ⟨gb, cb, he, hbc⟩ := own_someG HL.out.b (by omega)
              simp only [Value.slice.injEq] at he
              obtain ⟨rfl, -, rfl⟩ := he
              obtain ⟨g5, cb, he, h5c⟩ := own_someG HL.out.o (by omega)
              simp only [Value.slice.injEq] at he
              obtain ⟨rfl, -, rfl⟩ := he
              obtain ⟨g6, cb, he, h6c⟩ := own_someG HL.out.m (by omega)
              simp only [Value.slice.injEq] at he
              obtain ⟨rfl, -, rfl⟩ := he
              have hcb : wr.cell? ⟨gb, k, none⟩ = some (vs k) := (row_cell HL.out.b k hlt).trans (firstN_at vs n k hlt)
              have hc5 : wr.cell? ⟨g5, k, none⟩ = some (ones k) := (row_cell HL.out.o k hlt).trans (firstN_at ones n k hlt)
              have hc6 : wr.cell? ⟨g6, k, none⟩ = some (mores k) := (row_cell HL.out.m k hlt).trans (firstN_at mores n k hlt)
              have hov := HG.out.b.own k hlt
              have hoo := HG.out.one k hlt
              have hom := HG.out.more k hlt
              obtain ⟨av, cv, hv⟩ := own_shape hov
              obtain ⟨go1, co, ho, hoc⟩ := own_someG hoo (by omega)
              obtain ⟨gm, cm, hmm, hmc⟩ := own_someG hom (by omega)
              rw [hv] at hcb hov
              rw [ho] at hc5 hoo
              rw [hmm] at hc6 hom
              have hln := HLEN.out k hlt
              generalize len k = lk at hcb hov hc5 hoo hc6 hom hln hoc hmc
              have HOV := Lib.hid hov
              have HOO := Lib.hid hoo
              have HOM := Lib.hid hom
              clear hov hoo hom hv ho hmm
              go_wp2_with fail
              go_loop [11] (fun v => ∃ i : Nat, i ≤ lk + 70 ∧ v = .int .i64 i) (fun v => lk + 70 - (intOf v).toNat)
              case atStart => exact ⟨0, Nat.zero_le _, rfl⟩
              case round =>
                obtain ⟨i, hi, rfl⟩ := hrel
                have hmk : IntKind.u8.wrap (31 * (k : Int) + 7 * (i : Int) + 3) = mkB k i := rfl
                by_cases hil : i < lk + 70
                · have hxm : wr.cell? ⟨gm, i, none⟩ = some (.int .u8 (mkB k i)) := (row_cell HOM.out i hil).trans (mkB_at k _ i hil)
                  have hd2 : decide ((i : Int) < ((lk + 70 : Nat) : Int)) = true := by simp; omega
                  by_cases h1 : i < lk
                  · obtain ⟨gv, cb, he, hvc⟩ := own_someG HOV.out (by omega)
                    simp only [Value.slice.injEq] at he
                    obtain ⟨rfl, -, rfl⟩ := he
                    have hxv : wr.cell? ⟨gv, i, none⟩ = some (.int .u8 (mkB k i)) := (row_cell HOV.out i h1).trans (mkB_at k _ i h1)
                    have hd3 : decide ((i : Int) < (lk : Int)) = true := by simp; omega
                    have hd4 : ((i : Int) == (lk : Int)) = false := by simp; omega
                    go_wp2_with fail
                    go_round
                    case rel => exact ⟨i + 1, by omega, by go_num⟩
                    case measure => simp [intOf]; omega
                  · have hd3 : decide ((i : Int) < (lk : Int)) = false := by simp; omega
                    by_cases h2 : i = lk
                    · have hxo : wr.cell? ⟨go1, i, none⟩ = some (.int .u8 (mkB k i)) := (row_cell HOO.out i (by omega)).trans (mkB_at k _ i (by omega))
                      have hd4 : ((i : Int) == (lk : Int)) = true := by simp; omega
                      have h2' : i ≤ lk := by omega
                      clear h2
                      go_wp2_with fail
                      go_round
                      case rel => exact ⟨i + 1, by omega, by go_num⟩
                      case measure => simp [intOf]; omega
                    · have hd4 : ((i : Int) == (lk : Int)) = false := by simp; omega
                      go_wp2_with fail
                      go_round
                      case rel => exact ⟨i + 1, by omega, by go_num⟩
                      case measure => simp [intOf]; omega
                · obtain rfl : i = lk + 70 := by omega
                  have hd2 : decide (((lk + 70 : Nat) : Int) < ((lk + 70 : Nat) : Int)) = false := by simp
                  go_wp2_with fail
                  go_round
                  case rel => exact ⟨k + 1, by omega, by go_num⟩
                  case measure => simp [intOf]; omega
            · obtain rfl : k = n := by omega
              go_wp2_with fail
              go_ret
              exact ⟨rfl, HF.out⟩
theorem apartBytes_any (w : World) (base bg m : Nat) (bv : Value) (rest : List Value) (vs : Nat → Value) (len : Nat → Nat) (C : Nat → List Value) (hbag : BagAt w bg (bv :: rest)) (hbv : w.ownsRow base 25 1 bv m (firstN vs m)) (hm : m ≤ 400) (hB : Bags w base 5 1 m vs len C)
    (hlen : ∀ k, k < m → len k ≤ 140737488351232) (hbase : base ≤ w.heap.size) :
    Calls Tryd.prog 35 #[.pointer (some ⟨bg, 0, none⟩)] w fun e w' => e = .returned (.bool true) ∧ Fr w w' base bg :=
  (apartBytes_T (fun _ => False) w base bg m bv rest vs len C hbag hbv hm hB hlen hbase (fun _ h => h.elim) (fun _ _ _ h => h.elim)).mono fun _ _ ⟨e, h⟩ => ⟨e, h.fr⟩
end Go.Proofs.YtfmcjmkdlldlhaaDoor

namespace Go.Proofs.YtfmcjmkdlldlhaaDoor
open Go.RowKit

/-- The heads of the other lists: none was gathered. -/
def noneB : List Value := List.replicate 18 (.slice none 0 0)
theorem noneB_at (i : Nat) (h : i < 18) : noneB[i]? = some (.slice none 0 0) := by unfold noneB; rw [List.getElem?_replicate, if_pos h]

set_option maxRecDepth 100000 in
set_option maxHeartbeats 1000000 in
theorem apart_T (T : Nat → Prop) (w : World) (base bg m : Nat) (bv : Value) (vs : Nat → Value) (len : Nat → Nat) (C : Nat → List Value) (hbag : BagAt w bg (bv :: noneB)) (hbv : w.ownsRow base 25 1 bv m (firstN vs m)) (hm : m ≤ 400) (hB : Bags w base 5 1 m vs len C)
    (hlen : ∀ k, k < m → len k ≤ 140737488351232) (hbase : base ≤ w.heap.size) (hT : ∀ k, T k → k < w.heap.size) (hTV : ∀ j, j < m → FarT T (vs j)) :
    Calls Tryd.prog 22 #[.pointer (some ⟨bg, 0, none⟩)] w fun e w' => e = .returned (.bool true) ∧ FrT w w' base bg T := by
  have HA := Lib.hid (apartBytes_T T w base bg m bv noneB vs len C hbag hbv hm hB hlen hbase hT hTV)
  have HBAG := Lib.hid hbag
  clear hbag hbv hB hlen
  go_enter Tryd.func22, Tryd.ntmps22
  go_wp2_with fail
  refine HA.out.mono ?_
  rintro e w1 ⟨rfl, hF⟩
  have HF := Lib.hid hF
  have HN : ∀ i : Nat, i < 18 → w1.cell? ⟨bg, i + 1, none⟩ = some (.slice none 0 0) := fun i hi => ((hF.at_ HBAG.out).cell (i + 1)).trans (noneB_at i hi)
  have HN := Lib.hid HN
  clear hF HA
  go_wp2_with fail
  refine (apartInts_nil w1 bg (HN.out 0 (by omega))).mono ?_
  rintro e w' ⟨rfl, rfl⟩
  go_wp2_with fail
  refine (apartBools_nil w1 bg (HN.out 1 (by omega))).mono ?_
  rintro e w' ⟨rfl, rfl⟩
  go_wp2_with fail
  refine (apartTexts_nil w1 bg (HN.out 2 (by omega))).mono ?_
  rintro e w' ⟨rfl, rfl⟩
  go_wp2_with fail
  refine (apartMarks_nil w1 bg (HN.out 3 (by omega))).mono ?_
  rintro e w' ⟨rfl, rfl⟩
  go_wp2_with fail
  refine (apartSpans_nil w1 bg (HN.out 4 (by omega))).mono ?_
  rintro e w' ⟨rfl, rfl⟩
  go_wp2_with fail
  refine (apartRuns_nil w1 bg (HN.out 5 (by omega))).mono ?_
  rintro e w' ⟨rfl, rfl⟩
  go_wp2_with fail
  refine (apartClasses_nil w1 bg (HN.out 6 (by omega))).mono ?_
  rintro e w' ⟨rfl, rfl⟩
  go_wp2_with fail
  refine (apartNodes_nil w1 bg (HN.out 7 (by omega))).mono ?_
  rintro e w' ⟨rfl, rfl⟩
  go_wp2_with fail
  refine (apartInstrs_nil w1 bg (HN.out 8 (by omega))).mono ?_
  rintro e w' ⟨rfl, rfl⟩
  go_wp2_with fail
  refine (apartFaults_nil w1 bg (HN.out 9 (by omega))).mono ?_
  rintro e w' ⟨rfl, rfl⟩
  go_wp2_with fail
  refine (apartNotes_nil w1 bg (HN.out 10 (by omega))).mono ?_
  rintro e w' ⟨rfl, rfl⟩
  go_wp2_with fail
  refine (apartParts_nil w1 bg (HN.out 11 (by omega))).mono ?_
  rintro e w' ⟨rfl, rfl⟩
  go_wp2_with fail
  refine (apartRows_nil w1 bg (HN.out 12 (by omega))).mono ?_
  rintro e w' ⟨rfl, rfl⟩
  go_wp2_with fail
  refine (apartIntss_nil w1 bg (HN.out 13 (by omega))).mono ?_
  rintro e w' ⟨rfl, rfl⟩
  go_wp2_with fail
  refine (apartSpanss_nil w1 bg (HN.out 14 (by omega))).mono ?_
  rintro e w' ⟨rfl, rfl⟩
  go_wp2_with fail
  refine (apartPieces_nil w1 bg (HN.out 15 (by omega))).mono ?_
  rintro e w' ⟨rfl, rfl⟩
  go_wp2_with fail
  refine (apartFiles_nil w1 bg (HN.out 16 (by omega))).mono ?_
  rintro e w' ⟨rfl, rfl⟩
  go_wp2_with fail
  refine (apartCmds_nil w1 bg (HN.out 17 (by omega))).mono ?_
  rintro e w' ⟨rfl, rfl⟩
  go_wp2_with fail
  go_ret
  exact ⟨rfl, HF.out⟩
theorem apart_any (w : World) (base bg m : Nat) (bv : Value) (vs : Nat → Value) (len : Nat → Nat) (C : Nat → List Value) (hbag : BagAt w bg (bv :: noneB)) (hbv : w.ownsRow base 25 1 bv m (firstN vs m)) (hm : m ≤ 400) (hB : Bags w base 5 1 m vs len C)
    (hlen : ∀ k, k < m → len k ≤ 140737488351232) (hbase : base ≤ w.heap.size) :
    Calls Tryd.prog 22 #[.pointer (some ⟨bg, 0, none⟩)] w fun e w' => e = .returned (.bool true) ∧ Fr w w' base bg :=
  (apart_T (fun _ => False) w base bg m bv vs len C hbag hbv hm hB hlen hbase (fun _ h => h.elim) (fun _ _ _ h => h.elim)).mono fun _ _ ⟨e, h⟩ => ⟨e, h.fr⟩
end Go.Proofs.YtfmcjmkdlldlhaaDoor

namespace Go.Proofs.YtfmcjmkdlldlhaaDoor
open Go.RowKit

def pick4 {α : Type} (a b c d : α) : Nat → α
  | 0 => a
  | 1 => b
  | 2 => c
  | _ => d
theorem lt4 {k : Nat} (h : k < 4) : k = 0 ∨ k = 1 ∨ k = 2 ∨ k = 3 := by omega
theorem bags4 {w : World} {base : Nat} {u0 u1 u2 u3 : Value} {l0 l1 l2 l3 : List Int} (h0 : OwnB w base u0 l0) (h1 : OwnB w base u1 l1) (h2 : OwnB w base u2 l2) (h3 : OwnB w base u3 l3)
    (a01 : Apart u0 u1) (a02 : Apart u0 u2) (a03 : Apart u0 u3) (a12 : Apart u1 u2) (a13 : Apart u1 u3) (a23 : Apart u2 u3) :
    Bags w base 5 1 4 (pick4 u0 u1 u2 u3) (pick4 l0.length l1.length l2.length l3.length) (pick4 (l0.map (Value.int .u8)) (l1.map (Value.int .u8)) (l2.map (Value.int .u8)) (l3.map (Value.int .u8))) := by
  refine ⟨fun k hk => ?_, fun j k hj hk hne => ?_⟩
  · rcases lt4 hk with rfl | rfl | rfl | rfl
    · exact h0
    · exact h1
    · exact h2
    · exact h3
  · rcases lt4 hj with rfl | rfl | rfl | rfl <;> rcases lt4 hk with rfl | rfl | rfl | rfl <;> first
      | exact absurd rfl hne
      | exact a01
      | exact a02
      | exact a03
      | exact a12
      | exact a13
      | exact a23
      | exact a01.symm
      | exact a02.symm
      | exact a03.symm
      | exact a12.symm
      | exact a13.symm
      | exact a23.symm
theorem first4 (a b c d : Value) : firstN (pick4 a b c d) 4 = [a, b, c, d] := rfl

/-- Lists in blocks that lie one behind the other are apart. -/
theorem apart_lt {w : World} {base : Nat} {u v : Value} {l : List Int} (h : OwnB w base v l) (hu : ∀ k, u.ownBlock = some k → k < base) : Apart u v := fun k h1 h2 => by
  have := (World.ownsRow.lt h k h2).1
  have := hu k h1
  omega
theorem OwnB.top {w : World} {base : Nat} {v : Value} {l : List Int} (h : OwnB w base v l) {B : Nat} (hB : w.heap.size ≤ B) : ∀ k, v.ownBlock = some k → k < B := fun k hk => by
  have := (World.ownsRow.lt h k hk).2
  omega
/-- A list at the head of a whole row. -/
theorem Arr.own {w : World} {g base n m : Nat} {l : List Int} (h : Arr w g 5 l) (hb : base ≤ g) (hl : l.length = m) (hm : m ≤ maxLen) (hn : n ≤ m) : OwnB w base (.slice (some ⟨g, 0, none⟩) n m) (l.take n) := by
  have hlen : (l.take n).length = n := by rw [List.length_take]; omega
  unfold OwnB
  rw [hlen]
  refine ⟨by simp; omega, .inr ⟨g, m, row l, rfl, hb, h, hn, hm, by rw [row_size, hl, Nat.mul_one], ?_⟩⟩
  simp [row, List.map_take]

/-- An empty bag, just laid. -/
theorem BagAt.new (w : World) : BagAt (w.alloc (.cells (Value.slice none 0 0 :: noneB).toArray 65)) w.heap.size (.slice none 0 0 :: noneB) := heap_alloc_new w _
theorem bits8 {c : Int} (hc : ∀ n : Fin 256, 0 ≤ bits .xor .u8 (n.1 : Int) c ∧ bits .xor .u8 (n.1 : Int) c ≤ 255) (x : Int) (h0 : 0 ≤ x) (h1 : x ≤ 255) : 0 ≤ bits .xor .u8 x c ∧ bits .xor .u8 x c ≤ 255 := by
  have h := hc ⟨x.toNat, by omega⟩
  simp only [Int.toNat_of_nonneg h0] at h
  exact h
theorem isB_set {l : List Int} (h : IsB l) (i : Nat) (x : Int) (h0 : 0 ≤ x) (h1 : x ≤ 255) : IsB (l.set i x) := fun j => by
  rw [List.getElem?_set]
  split
  · split
    · simp; omega
    · simp
  · exact h j
theorem OwnB.store {w : World} {base g n cap : Nat} {l : List Int} (h : OwnB w base (.slice (some ⟨g, 0, none⟩) n cap) l) (i : Nat) (x : Int) : OwnB (w.setCell ⟨g, i, none⟩ (.int .u8 x)) base (.slice (some ⟨g, 0, none⟩) n cap) (l.set i x) := by
  obtain rfl := own_len h
  have := (World.ownsRow.stored h i (.int .u8 x)).1
  unfold OwnB
  rw [List.length_set, List.map_set]
  exact this
theorem OwnB.cellAt {w : World} {base g n cap : Nat} {l : List Int} (h : OwnB w base (.slice (some ⟨g, 0, none⟩) n cap) l) (i : Nat) (hi : i < n) : w.cell? ⟨g, i, none⟩ = some (.int .u8 (l[i]?.getD 0)) ∧ w.frozen? ⟨g, i, none⟩ = false := by
  obtain rfl := own_len h
  refine ⟨(World.ownsRow.cellAt h i (by omega)).trans ?_, World.ownsRow.frozenAt h i⟩
  rw [List.getElem?_map, List.getElem?_eq_getElem hi]
  simp
theorem OwnB.some_ {w : World} {base : Nat} {v : Value} {l : List Int} (h : OwnB w base v l) (hn : 0 < l.length) : ∃ g cap, v = .slice (some ⟨g, 0, none⟩) l.length cap ∧ l.length ≤ cap ∧ base ≤ g ∧ g < w.heap.size := by
  rcases h.2 with ⟨_, h0⟩ | ⟨g, cap, cur, rfl, hb, hg, hc, _⟩
  · omega
  · exact ⟨g, cap, rfl, hc, hb, (Array.getElem?_eq_some_iff.1 hg).1⟩
/-- A store into another block. -/
theorem OwnB.far_store {w : World} {base g i : Nat} {v : Value} {l : List Int} (h : OwnB w base v l) (hne : v.ownBlock ≠ some g) (u : Value) : OwnB (w.setCell ⟨g, i, none⟩ u) base v l := ownsRow_setCell_other h hne u
end Go.Proofs.YtfmcjmkdlldlhaaDoor

namespace Go.Proofs.YtfmcjmkdlldlhaaDoor
open Go.RowKit

def snoc {α : Type} (f : Nat → α) (m : Nat) (v : α) (k : Nat) : α := if k = m then v else f k
theorem snoc_same {α : Type} (f : Nat → α) (m : Nat) (v : α) : snoc f m v m = v := by simp [snoc]
theorem snoc_lt {α : Type} (f : Nat → α) {m k : Nat} (v : α) (h : k < m) : snoc f m v k = f k := by simp [snoc, Nat.ne_of_lt h]

/-- m lists of bytes lie in the bag. -/
structure GI (w : World) (base bg m : Nat) (bv : Value) (vs : Nat → Value) (len : Nat → Nat) (C : Nat → List Value) : Prop where
  bag : BagAt w bg (bv :: noneB)
  own : w.ownsRow base 25 1 bv m (firstN vs m)
  b : Bags w base 5 1 m vs len C
  lim : ∀ k, k < m → len k ≤ 140737488351232
  lo : base ≤ bg
/-- The blocks of a bag and of its lists. -/
def GF (bg m : Nat) (bv : Value) (vs : Nat → Value) (k : Nat) : Prop := k = bg ∨ bv.ownBlock = some k ∨ ∃ j, j < m ∧ (vs j).ownBlock = some k
section
variable {w w' : World} {base bg m : Nat} {bv v : Value} {vs : Nat → Value} {len : Nat → Nat} {C : Nat → List Value} {l : List Int}
theorem GI.lt (g : GI w base bg m bv vs len C) : ∀ k, GF bg m bv vs k → k < w.heap.size := fun k hk => by
  rcases hk with rfl | e | ⟨j, hj, e⟩
  · exact g.bag.lt
  · exact (World.ownsRow.lt g.own k e).2
  · exact (World.ownsRow.lt (g.b.own j hj) k e).2
theorem GI.keep (g : GI w base bg m bv vs len C) (hk : ∀ k, GF bg m bv vs k → w'.heap[k]? = w.heap[k]?) : GI w' base bg m bv vs len C :=
  { g with
    bag := (hk bg (.inl rfl)).trans g.bag
    own := own_blk g.own fun k e => hk k (.inr (.inl e))
    b := ⟨fun j hj => own_blk (g.b.own j hj) fun k e => hk k (.inr (.inr ⟨j, hj, e⟩)), g.b.ap⟩ }
theorem GI.below (g : GI w base bg m bv vs len C) (hb : Below w.heap.size w w') : GI w' base bg m bv vs len C := g.keep fun k hk => hb.block k (g.lt k hk)
theorem GI.new (w : World) (base : Nat) (hb : base ≤ w.heap.size) (vs : Nat → Value) (len : Nat → Nat) (C : Nat → List Value) : GI (w.alloc (.cells (Value.slice none 0 0 :: noneB).toArray 65)) base w.heap.size 0 (.slice none 0 0) vs len C :=
  ⟨BagAt.new w, World.ownsRow_nil _ _ _ _, ⟨fun _ h => absurd h (Nat.not_lt_zero _), fun _ _ _ h => absurd h (Nat.not_lt_zero _)⟩, fun _ h => absurd h (Nat.not_lt_zero _), hb⟩

/-- What AddBytes leaves, with the bag's lists in view. -/
def AddGPost (w : World) (base bg m : Nat) (bv : Value) (vs : Nat → Value) (len : Nat → Nat) (C : Nat → List Value) (v : Value) (l : List Int) (e : Ending) (w' : World) : Prop :=
  e = .returned undef ∧ ∃ bv', GI w' base bg (m + 1) bv' (snoc vs m v) (snoc len m l.length) (snoc C m (l.map (Value.int .u8))) ∧
    (∀ k, k < w.heap.size → ¬ GF bg m bv vs k → w'.heap[k]? = w.heap[k]?) ∧ (∀ k, GF bg (m + 1) bv' (snoc vs m v) k → GF bg m bv vs k ∨ v.ownBlock = some k ∨ w.heap.size ≤ k) ∧
    (∀ B w0, Below B w0 w → B ≤ base → Below B w0 w') ∧ w.heap.size ≤ w'.heap.size
theorem apartG (T : Nat → Prop) (g : GI w base bg m bv vs len C) (hs : base ≤ w.heap.size) (hm : m ≤ 400) (hT : ∀ k, T k → k < w.heap.size) (hd : ∀ k, GF bg m bv vs k → ¬ T k) :
    Calls Tryd.prog 22 #[.pointer (some ⟨bg, 0, none⟩)] w fun e w' => e = .returned (.bool true) ∧ FrT w w' base bg T :=
  apart_T T w base bg m bv vs len C g.bag g.own hm g.b g.lim hs hT fun j hj k hk e => hd k (.inr (.inr ⟨j, hj, e⟩)) hk
end
end Go.Proofs.YtfmcjmkdlldlhaaDoor

namespace Go.Proofs.YtfmcjmkdlldlhaaDoor
open Go.RowKit

/-- append(list, y): one more list, in a list of lists of any type. -/
theorem append_lg {ops : Array Oper} {rest : List Oper} {o : Oper} {a : Act} {w : World} {Q : Exit → Act → World → Prop} (hgd : o.guard = none) (s x : Operand) (t e : TypeId)
    (ho : o.op = .call { callee := .builtin .append, args := #[s, x], argTypes := #[t, t] }) (ht : Tryd.prog.underlying t = some (.slice e)) (hinfo : (Tryd.prog.info? e).map (fun i => (i.zero, i.size, i.bytes)) = some (some (.slice none 0 0), 1, 24))
    (base : Nat) (v : Value) (n : Nat) (us : List Value) (y : Value) (hs : a.eval s = v) (hown : w.ownsRow base e 1 v n us) (hx : a.eval x = .slice (some ⟨w.heap.size, 0, none⟩) 1 1) (hy : y.oneCell' = true) (hsum : n + 1 ≤ 5864062014805) (hbase : base ≤ w.heap.size)
    (h : ∀ v' w', w'.ownsRow base e 1 v' (n + 1) (us ++ [y]) → w'.ownsRow base e 1 v n us → AppPost w w' base v v' → wpList Tryd.prog ops Q rest (a.put o.dst v') w') :
    wpList Tryd.prog ops Q (o :: rest) a (w.alloc (.cells #[y] e)) := by
  obtain ⟨i0, hi, hz0, hz1, hz2⟩ := info_parts hinfo
  exact append_new hgd s x t e i0 (.slice none 0 0) 1 24 ho ht hi hz0 hz1 hz2 rfl (by decide) base v n us hs hown 1 [y] #[y] rfl rfl (fun u hu => by simp at hu; subst hu; exact hy) hx (by unfold maxLen; omega) (by omega) hbase h
/-- append(l, x): one more element of two cells. -/
theorem append_2g {ops : Array Oper} {rest : List Oper} {o : Oper} {a : Act} {w : World} {Q : Exit → Act → World → Prop} (hgd : o.guard = none) (s x : Operand) (t e : TypeId) (z0 z1 : Value) (by_ : Nat)
    (ho : o.op = .call { callee := .builtin .append, args := #[s, x], argTypes := #[t, t] }) (ht : Tryd.prog.underlying t = some (.slice e)) (hinfo : (Tryd.prog.info? e).map (fun i => (i.zero, i.size, i.bytes)) = some (some (.agg #[z0, z1]), 2, by_))
    (base : Nat) (v : Value) (n : Nat) (us : List Value) (y z : Value) (hs : a.eval s = v) (hown : w.ownsRow base e 2 v n us) (hx : a.eval x = .slice (some ⟨w.heap.size, 0, none⟩) 1 1) (hy : y.oneCell' = true ∧ z.oneCell' = true) (hsum : (n + 1) * by_ ≤ 140737488355328) (hsum2 : n + 1 ≤ 140737488355328) (hbase : base ≤ w.heap.size)
    (h : ∀ v' w', w'.ownsRow base e 2 v' (n + 1) (us ++ [y, z]) → w'.ownsRow base e 2 v n us → AppPost w w' base v v' → wpList Tryd.prog ops Q rest (a.put o.dst v') w') :
    wpList Tryd.prog ops Q (o :: rest) a (w.alloc (.cells #[y, z] e)) := by
  obtain ⟨i0, hi, hz0, hz1, hz2⟩ := info_parts hinfo
  exact append_new hgd s x t e i0 (.agg #[z0, z1]) 2 by_ ho ht hi hz0 hz1 hz2 rfl (by decide) base v n us hs hown 1 [y, z] #[y, z] rfl rfl (fun u hu => by
    simp only [List.mem_cons, List.not_mem_nil, or_false] at hu
    rcases hu with rfl | rfl
    · exact hy.1
    · exact hy.2) hx (by unfold maxLen; omega) (by omega) hbase h

/-! ### What the three lists of lists hold -/
structure LstG (T : TypeId) (w : World) (base : Nat) (bv ov mv : Value) (m p q : Nat) (vs ones mores : Nat → Value) : Prop where
  b : w.ownsRow base T 1 bv m (firstN vs m)
  o : w.ownsRow base T 1 ov p (firstN ones p)
  m : w.ownsRow base T 1 mv q (firstN mores q)
  bo : Apart ov bv
  bm : Apart mv bv
  om : Apart ov mv
section
variable {T : TypeId} {w w' : World} {base : Nat} {bv ov mv ov' mv' l : Value} {m p q : Nat} {vs ones mores : Nat → Value}
theorem LstG.keepT (h : LstG T w base bv ov mv m p q vs ones mores) (hk : KeepT T w w') : LstG T w' base bv ov mv m p q vs ones mores := { h with b := hk.own h.b, o := hk.own h.o, m := hk.own h.m }
theorem LstG.congr {ones' : Nat → Value} (h : LstG T w base bv ov mv m p q vs ones mores) (he : ∀ k, k < p → ones k = ones' k) : LstG T w base bv ov mv m p q vs ones' mores := { h with o := by rw [← firstN_congr he]; exact h.o }
theorem LstG.one (h : LstG T w base bv ov mv m p q vs ones mores) (ho : w'.ownsRow base T 1 ov' (p + 1) (firstN ones p ++ [l])) (hp : AppPost w w' base ov ov') : LstG T w' base bv ov' mv m (p + 1) q vs (fun k => if k = p then l else ones k) mores := by
  have h1 := hp.other base _ _ _ bv _ h.b h.bo
  have h2 := hp.other base _ _ _ mv _ h.m h.om
  exact ⟨h1.1, by rw [← firstN_snoc]; exact ho, h2.1, h1.2, h.bm, h2.2⟩
theorem LstG.more (h : LstG T w base bv ov mv m p q vs ones mores) (ho : w'.ownsRow base T 1 mv' (q + 1) (firstN mores q ++ [l])) (hp : AppPost w w' base mv mv') : LstG T w' base bv ov mv' m p (q + 1) vs ones (fun k => if k = q then l else mores k) := by
  have h1 := hp.other base _ _ _ bv _ h.b h.bm
  have h2 := hp.other base _ _ _ ov _ h.o h.om.symm
  exact ⟨h1.1, h2.1, by rw [← firstN_snoc]; exact ho, h.bo, h1.2, h2.2.symm⟩
end

/-! ### Lists of elements of two cells, written over place by place -/
section
variable (mk : Nat → Nat → List Value)
def half2 (n i : Nat) (len : Nat → Nat) (C : Nat → List Value) (k : Nat) : List Value := if k < n then marks mk k (len k) else if k = n then marks mk n i ++ (C n).drop (i * 2) else C k
theorem half2_next (n : Nat) (len : Nat → Nat) (C : Nat → List Value) (hl : (C n).length = len n * 2) : half2 mk n (len n) len C = half2 mk (n + 1) 0 len C := by
  funext k
  unfold half2
  by_cases h1 : k < n
  · rw [if_pos h1, if_pos (by omega)]
  · rw [if_neg h1]
    by_cases e : k = n
    · subst e
      rw [if_pos rfl, if_pos (by omega), List.drop_eq_nil_of_le (by omega), List.append_nil]
    · rw [if_neg e, if_neg (by omega)]
      by_cases e2 : k = n + 1
      · subst e2; rw [if_pos rfl]; rfl
      · rw [if_neg e2]
theorem half2_zero (len : Nat → Nat) (C : Nat → List Value) : half2 mk 0 0 len C = C := by
  funext k
  unfold half2
  rw [if_neg (Nat.not_lt_zero k)]
  by_cases e : k = 0
  · subst e; rw [if_pos rfl]; rfl
  · rw [if_neg e]
theorem half2_all (m : Nat) (len : Nat → Nat) (C : Nat → List Value) (k : Nat) (h : k < m) : half2 mk m 0 len C k = marks mk k (len k) := by unfold half2; rw [if_pos h]
theorem set_two2 (a b : List Value) (x y u v : Value) : ((a ++ x :: y :: b).set a.length u).set (a.length + 1) v = a ++ u :: v :: b := by
  rw [List.set_append_right _ _ (Nat.le_refl _), Nat.sub_self, List.set_append_right _ _ (by omega), Nat.add_sub_cancel_left]
  rfl
theorem half2_set (hmk : ∀ k i, (mk k i).length = 2) (n i : Nat) (len : Nat → Nat) (C : Nat → List Value) (u v : Value) (hi : i < len n) (hl : (C n).length = len n * 2) (hm : mk n i = [u, v]) : ((half2 mk n i len C n).set (i * 2) u).set (i * 2 + 1) v = half2 mk n (i + 1) len C n := by
  unfold half2
  rw [if_neg (Nat.lt_irrefl n), if_pos rfl, if_neg (Nat.lt_irrefl n), if_pos rfl, marks_succ, hm]
  have h1 : (marks mk n i).length = i * 2 := marks_len _ hmk n i
  obtain ⟨x, y, hd⟩ : ∃ x y, (C n).drop (i * 2) = x :: y :: (C n).drop ((i + 1) * 2) :=
    ⟨(C n)[i * 2]'(by omega), (C n)[i * 2 + 1]'(by omega), by rw [List.drop_eq_getElem_cons (by omega), List.drop_eq_getElem_cons (by omega), show (i + 1) * 2 = i * 2 + 1 + 1 by omega]⟩
  rw [hd, ← h1, set_two2, List.append_assoc]
  rfl
theorem half2_other (n i : Nat) (len : Nat → Nat) (C : Nat → List Value) (k : Nat) (h : k ≠ n) : half2 mk n i len C k = half2 mk n (i + 1) len C k := by
  unfold half2
  by_cases h1 : k < n
  · rw [if_pos h1, if_pos h1]
  · rw [if_neg h1, if_neg h, if_neg h1, if_neg h]
end
/-- An element is written into list n: the bag's lists behind it, and all blocks of another type stay. -/
theorem Bags.put2 {mk : Nat → Nat → List Value} (hmk : ∀ k i, (mk k i).length = 2) {E : TypeId} {w : World} {base m n i g cap : Nat} {vs : Nat → Value} {len : Nat → Nat} {C : Nat → List Value} {u v : Value} (h : Bags w base E 2 m vs len (half2 mk n i len C)) (hn : n < m) (hv : vs n = .slice (some ⟨g, 0, none⟩) (len n) cap) (hi : i < len n) (hl : (C n).length = len n * 2) (hm : mk n i = [u, v]) :
    Bags ((w.setCell ⟨g, i * 2, none⟩ u).setCell ⟨g, i * 2 + 1, none⟩ v) base E 2 m vs len (half2 mk n (i + 1) len C) ∧ base ≤ g ∧ (∀ T, T ≠ E → KeepT T w ((w.setCell ⟨g, i * 2, none⟩ u).setCell ⟨g, i * 2 + 1, none⟩ v)) ∧ (∀ (bg : Nat) (cs : Array Value) (T : TypeId), w.heap[bg]? = some (.cells cs T (0, 0)) → T ≠ E → g ≠ bg) := by
  have ho := h.own n hn
  rw [hv] at ho
  have hs1 := (ho.stored (i * 2) u).1
  have hs2 := (hs1.stored (i * 2 + 1) v).1
  rw [half2_set mk hmk n i len C u v hi hl hm] at hs2
  have hg : ∃ cur, w.heap[g]? = some (.cells cur E (0, 0)) ∧ base ≤ g := by
    rcases ho.2 with ⟨e, _⟩ | ⟨g', cap', cur, e, hb, hk, _⟩
    · simp at e
    · simp only [Value.slice.injEq, Option.some.injEq, Addr.mk.injEq, and_true, true_and] at e
      obtain ⟨rfl, rfl⟩ := e
      exact ⟨cur, hk, hb⟩
  obtain ⟨cur, hg, hb⟩ := hg
  have hne : ∀ (bg : Nat) (cs : Array Value) (T : TypeId), w.heap[bg]? = some (.cells cs T (0, 0)) → T ≠ E → g ≠ bg := fun bg cs T hk hT e => by
    subst e
    rw [hg] at hk
    simp only [Option.some.injEq, Obj.cells.injEq] at hk
    exact hT hk.2.1.symm
  refine ⟨⟨fun k hk => ?_, h.ap⟩, hb, fun T hT k cs hk => ?_, hne⟩
  · by_cases e : k = n
    · subst e; rw [hv]; exact hs2
    · rw [← half2_other mk n i len C k e]
      have hn2 : (vs k).ownBlock ≠ some g := fun e2 => h.ap k n hk hn e g e2 (by rw [hv]; rfl)
      exact ownsRow_setCell_other (ownsRow_setCell_other (h.own k hk) hn2 _) hn2 _
  · have hn2 := hne k cs T hk hT
    exact (heap_setCell_other _ ⟨g, i * 2 + 1, none⟩ k _ (fun e => hn2 e.symm)).trans (heap_setCell_other w ⟨g, i * 2, none⟩ k _ (fun e => hn2 e.symm))
end Go.Proofs.YtfmcjmkdlldlhaaDoor

namespace Go.Proofs.YtfmcjmkdlldlhaaDoor
open Go.RowKit

/-- Of the kind at head c, m lists lie in the bag. -/
structure Kd (w : World) (base c : Nat) (LT ET : TypeId) (sz lm m : Nat) (fs : List Value) (bv : Value) (vs : Nat → Value) (len : Nat → Nat) (C : Nat → List Value) : Prop where
  hd : fs[c]? = some bv
  own : w.ownsRow base LT 1 bv m (firstN vs m)
  b : Bags w base ET sz m vs len C
  lim : ∀ k, k < m → len k ≤ lm
/-- What Add of one list leaves. -/
structure AddedK (c : Nat) (LT : TypeId) (w w' : World) (base bg n : Nat) (fs : List Value) (bv bv' : Value) (us : List Value) (u : Value) : Prop where
  bag : BagAt w' bg (fs.set c bv')
  own : w'.ownsRow base LT 1 bv' (n + 1) (us ++ [u])
  keep : ∀ T, T ≠ LT → T ≠ 65 → KeepT T w w'
  blk : ∀ k, k < w.heap.size → k ≠ bg → bv.ownBlock ≠ some k → w'.heap[k]? = w.heap[k]?
  new : ∀ k, bv'.ownBlock = some k → bv.ownBlock = some k ∨ w.heap.size ≤ k
  bel : ∀ B w0, Below B w0 w → B ≤ base → B ≤ bg → Below B w0 w'
  size : w.heap.size ≤ w'.heap.size
def AddedKPost (c : Nat) (LT : TypeId) (w : World) (base bg n : Nat) (fs : List Value) (bv : Value) (us : List Value) (u : Value) (e : Ending) (w' : World) : Prop := e = .returned undef ∧ ∃ bv', AddedK c LT w w' base bg n fs bv bv' us u
section
variable {w w' : World} {base bg c n sz lm m : Nat} {LT ET : TypeId} {fs : List Value} {bv bv' u : Value} {vs : Nat → Value} {len : Nat → Nat} {C : Nat → List Value} {us : List Value}
theorem AddedK.of_app (hbag : BagAt w bg fs) (hne : LT ≠ 65) {w1 : World} (hown : w.ownsRow base LT 1 bv n us) (hov : w1.ownsRow base LT 1 bv' (n + 1) (us ++ [u])) (hp : AppPost w w1 base bv bv') :
    AddedK c LT w (w1.setCell ⟨bg, c, none⟩ bv') base bg n fs bv bv' us u := by
  have hB1 := hbag.keepT (KeepT.of_app hown hp hne)
  exact ⟨hB1.set c _, (keepT_bag hB1 hne _).own hov, fun T hT hG => (KeepT.of_app hown hp hT.symm).trans (keepT_bag hB1 hG _),
    fun k h1 h2 h3 => (heap_setCell_other w1 ⟨bg, c, none⟩ k _ h2).trans (hp.block k h1 h3), hp.new, fun B w0 h0 h1 h2 => (hp.bel B w0 h0 h1).setCell (by show B ≤ bg; exact h2) _, by have := hp.size; simpa using this⟩
theorem Kd.keepT (h : Kd w base c LT ET sz lm m fs bv vs len C) (h1 : KeepT LT w w') (h2 : KeepT ET w w') : Kd w' base c LT ET sz lm m fs bv vs len C :=
  { h with own := h1.own h.own, b := h.b.keepT h2 }
theorem Kd.below (h : Kd w base c LT ET sz lm m fs bv vs len C) (hb : Below w.heap.size w w') : Kd w' base c LT ET sz lm m fs bv vs len C := h.keepT (KeepT.of_below hb) (KeepT.of_below hb)
theorem Kd.none (w : World) (base c : Nat) (LT ET : TypeId) (sz lm : Nat) (fs : List Value) (hd : fs[c]? = some (.slice none 0 0)) (vs : Nat → Value) (len : Nat → Nat) (C : Nat → List Value) : Kd w base c LT ET sz lm 0 fs (.slice none 0 0) vs len C :=
  ⟨hd, World.ownsRow_nil _ _ _ _, ⟨fun _ h => absurd h (Nat.not_lt_zero _), fun _ _ h => absurd h (Nat.not_lt_zero _)⟩, fun _ h => absurd h (Nat.not_lt_zero _)⟩
theorem bags_snoc (hb : Bags w base ET sz m vs len C) {v : Value} {n : Nat} {xs : List Value} (hv : w.ownsRow base ET sz v n xs) (hap : ∀ j, j < m → Apart (vs j) v) : Bags w base ET sz (m + 1) (snoc vs m v) (snoc len m n) (snoc C m xs) := by
  refine ⟨fun k hk => ?_, fun j k hj hk hne => ?_⟩
  · by_cases e : k = m
    · subst e; simp only [snoc_same]; exact hv
    · have hk' : k < m := by omega
      simp only [snoc_lt _ _ hk']; exact hb.own k hk'
  · by_cases e : j = m
    · subst e
      have hk' : k < j := by omega
      rw [snoc_same, snoc_lt _ _ hk']
      exact fun x h1 h2 => hap k hk' x h2 h1
    · have hj' : j < m := by omega
      rw [snoc_lt _ _ hj']
      by_cases e2 : k = m
      · subst e2; rw [snoc_same]; exact hap j hj'
      · have hk' : k < m := by omega
        rw [snoc_lt _ _ hk']
        exact hb.ap j k hj' hk' hne
/-- One more list lies in the bag. -/
theorem Kd.add (h : Kd w base c LT ET sz lm m fs bv vs len C) (hA : AddedK c LT w w' base bg m fs bv bv' (firstN vs m) u) (hc : c < fs.length) (hne : ET ≠ LT) (hneG : ET ≠ 65) {n : Nat} {xs : List Value} (hv : w.ownsRow base ET sz u n xs) (hn : n ≤ lm) (hap : ∀ j, j < m → Apart (vs j) u) :
    Kd w' base c LT ET sz lm (m + 1) (fs.set c bv') bv' (snoc vs m u) (snoc len m n) (snoc C m xs) := by
  have hk := hA.keep ET hne hneG
  have ho := hA.own
  rw [firstN_snoc] at ho
  refine ⟨by simp [hc], ho, bags_snoc (h.b.keepT hk) (hk.own hv) hap, fun k hk => ?_⟩
  by_cases e : k = m
  · subst e; rw [snoc_same]; exact hn
  · have hk' : k < m := by omega
    rw [snoc_lt _ _ hk']; exact h.lim k hk'
/-- A list of another kind lies in the bag. -/
theorem Kd.other (h : Kd w base c LT ET sz lm m fs bv vs len C) {c2 : Nat} {LT2 : TypeId} {n : Nat} {bv2 bv2' u2 : Value} {us2 : List Value} (hA : AddedK c2 LT2 w w' base bg n fs bv2 bv2' us2 u2) (hcc : c2 ≠ c) (h1 : LT ≠ LT2) (h2 : LT ≠ 65) (h3 : ET ≠ LT2) (h4 : ET ≠ 65) :
    Kd w' base c LT ET sz lm m (fs.set c2 bv2') bv vs len C :=
  ⟨by rw [List.getElem?_set_ne hcc]; exact h.hd, (hA.keep LT h1 h2).own h.own, h.b.keepT (hA.keep ET h3 h4), h.lim⟩
end
/-- The heads of a bag into which nothing was gathered. -/
def heads0 : List Value := List.replicate 19 (.slice none 0 0)
theorem heads0_at (i : Nat) (h : i < 19) : heads0[i]? = some (.slice none 0 0) := by unfold heads0; rw [List.getElem?_replicate, if_pos h]
theorem heads0_len : heads0.length = 19 := by simp [heads0]
theorem BagAt.new0 (w : World) : BagAt (w.alloc (.cells #[.slice none 0 0, .slice none 0 0, .slice none 0 0, .slice none 0 0, .slice none 0 0, .slice none 0 0, .slice none 0 0, .slice none 0 0, .slice none 0 0, .slice none 0 0, .slice none 0 0, .slice none 0 0, .slice none 0 0, .slice none 0 0, .slice none 0 0, .slice none 0 0, .slice none 0 0, .slice none 0 0, .slice none 0 0] 65)) w.heap.size heads0 := heap_alloc_new w _
end Go.Proofs.YtfmcjmkdlldlhaaDoor

namespace Go.Proofs.YtfmcjmkdlldlhaaDoor
open Go.RowKit

/-- append(l, x): one more element of one cell. -/
theorem append_1g {ops : Array Oper} {rest : List Oper} {o : Oper} {a : Act} {w : World} {Q : Exit → Act → World → Prop} (hgd : o.guard = none) (s x : Operand) (t e : TypeId) (z0 : Value) (by_ : Nat)
    (ho : o.op = .call { callee := .builtin .append, args := #[s, x], argTypes := #[t, t] }) (ht : Tryd.prog.underlying t = some (.slice e)) (hinfo : (Tryd.prog.info? e).map (fun i => (i.zero, i.size, i.bytes)) = some (some z0, 1, by_)) (hzs : z0.cells.size = 1)
    (base : Nat) (v : Value) (n : Nat) (us : List Value) (y : Value) (hs : a.eval s = v) (hown : w.ownsRow base e 1 v n us) (hx : a.eval x = .slice (some ⟨w.heap.size, 0, none⟩) 1 1) (hy : y.oneCell' = true) (hsum : (n + 1) * by_ ≤ 140737488355328) (hsum2 : n + 1 ≤ 140737488355328) (hbase : base ≤ w.heap.size)
    (h : ∀ v' w', w'.ownsRow base e 1 v' (n + 1) (us ++ [y]) → w'.ownsRow base e 1 v n us → AppPost w w' base v v' → wpList Tryd.prog ops Q rest (a.put o.dst v') w') :
    wpList Tryd.prog ops Q (o :: rest) a (w.alloc (.cells #[y] e)) := by
  obtain ⟨i0, hi, hz0, hz1, hz2⟩ := info_parts hinfo
  exact append_new hgd s x t e i0 z0 1 by_ ho ht hi hz0 hz1 hz2 hzs (by decide) base v n us hs hown 1 [y] #[y] rfl rfl (fun u hu => by simp at hu; subst hu; exact hy) hx (by unfold maxLen; omega) (by omega) hbase h

theorem own_some1 {w : World} {base n size : Nat} {e : TypeId} {v : Value} {us : List Value} (h : w.ownsRow base e size v n us) (hn : 0 < n) : ∃ g cap, v = .slice (some ⟨g, 0, none⟩) n cap ∧ n ≤ cap := by
  rcases h.2 with ⟨_, h0⟩ | ⟨g, cap, cur, rfl, _, _, hc, _⟩
  · omega
  · exact ⟨g, cap, rfl, hc⟩
theorem FrT.below1 {w wr w' : World} {base bg : Nat} {T : Nat → Prop} {fs : List Value} (h : FrT w wr base bg T) (hbag : BagAt w bg fs) (hb : Below wr.heap.size wr w') (hbase : base ≤ wr.heap.size) : FrT w w' base bg T :=
  ⟨(hb.block bg (h.at_ hbag).lt).trans h.bag, fun B w0 h0 hB => (h.bel B w0 h0 hB).trans (hb.mono (Nat.le_trans hB hbase)), Nat.le_trans h.size hb.size, h.lt, fun k hk => (hb.block k (Nat.lt_of_lt_of_le (h.lt k hk) h.size)).trans (h.kept k hk)⟩
section
variable (mk : Nat → Nat → List Value)
def half1 (n i : Nat) (len : Nat → Nat) (C : Nat → List Value) (k : Nat) : List Value := if k < n then marks mk k (len k) else if k = n then marks mk n i ++ (C n).drop i else C k
theorem half1_next (n : Nat) (len : Nat → Nat) (C : Nat → List Value) (hl : (C n).length = len n) : half1 mk n (len n) len C = half1 mk (n + 1) 0 len C := by
  funext k
  unfold half1
  by_cases h1 : k < n
  · rw [if_pos h1, if_pos (by omega)]
  · rw [if_neg h1]
    by_cases e : k = n
    · subst e
      rw [if_pos rfl, if_pos (by omega), List.drop_eq_nil_of_le (by omega), List.append_nil]
    · rw [if_neg e, if_neg (by omega)]
      by_cases e2 : k = n + 1
      · subst e2; rw [if_pos rfl]; rfl
      · rw [if_neg e2]
theorem half1_zero (len : Nat → Nat) (C : Nat → List Value) : half1 mk 0 0 len C = C := by
  funext k
  unfold half1
  rw [if_neg (Nat.not_lt_zero k)]
  by_cases e : k = 0
  · subst e; rw [if_pos rfl]; rfl
  · rw [if_neg e]
theorem half1_all (m : Nat) (len : Nat → Nat) (C : Nat → List Value) (k : Nat) (h : k < m) : half1 mk m 0 len C k = marks mk k (len k) := by unfold half1; rw [if_pos h]
theorem half1_set (hmk : ∀ k i, (mk k i).length = 1) (n i : Nat) (len : Nat → Nat) (C : Nat → List Value) (u : Value) (hi : i < len n) (hl : (C n).length = len n) (hm : mk n i = [u]) : (half1 mk n i len C n).set i u = half1 mk n (i + 1) len C n := by
  unfold half1
  rw [if_neg (Nat.lt_irrefl n), if_pos rfl, if_neg (Nat.lt_irrefl n), if_pos rfl, marks_succ, hm]
  have h1 : (marks mk n i).length = i := by rw [marks_len _ hmk n i, Nat.mul_one]
  rw [List.drop_eq_getElem_cons (by omega : i < (C n).length), List.set_append_right _ _ (by omega), h1, Nat.sub_self, List.set_cons_zero, List.append_assoc]
  rfl
theorem half1_other (n i : Nat) (len : Nat → Nat) (C : Nat → List Value) (k : Nat) (h : k ≠ n) : half1 mk n i len C k = half1 mk n (i + 1) len C k := by
  unfold half1
  by_cases h1 : k < n
  · rw [if_pos h1, if_pos h1]
  · rw [if_neg h1, if_neg h, if_neg h1, if_neg h]
end
/-- An element is written into list n. -/
theorem Bags.put1 {mk : Nat → Nat → List Value} (hmk : ∀ k i, (mk k i).length = 1) {E : TypeId} {w : World} {base m n i g cap : Nat} {vs : Nat → Value} {len : Nat → Nat} {C : Nat → List Value} {u : Value} (h : Bags w base E 1 m vs len (half1 mk n i len C)) (hn : n < m) (hv : vs n = .slice (some ⟨g, 0, none⟩) (len n) cap) (hi : i < len n) (hl : (C n).length = len n) (hm : mk n i = [u]) :
    Bags (w.setCell ⟨g, i, none⟩ u) base E 1 m vs len (half1 mk n (i + 1) len C) ∧ base ≤ g ∧ (∀ T, T ≠ E → KeepT T w (w.setCell ⟨g, i, none⟩ u)) ∧ (∀ (bg : Nat) (cs : Array Value) (T : TypeId), w.heap[bg]? = some (.cells cs T (0, 0)) → T ≠ E → g ≠ bg) := by
  have ho := h.own n hn
  rw [hv] at ho
  have hs1 := (ho.stored i u).1
  rw [half1_set mk hmk n i len C u hi hl hm] at hs1
  have hg : ∃ cur, w.heap[g]? = some (.cells cur E (0, 0)) ∧ base ≤ g := by
    rcases ho.2 with ⟨e, _⟩ | ⟨g', cap', cur, e, hb, hk, _⟩
    · simp at e
    · simp only [Value.slice.injEq, Option.some.injEq, Addr.mk.injEq, and_true, true_and] at e
      obtain ⟨rfl, rfl⟩ := e
      exact ⟨cur, hk, hb⟩
  obtain ⟨cur, hg, hb⟩ := hg
  have hne : ∀ (bg : Nat) (cs : Array Value) (T : TypeId), w.heap[bg]? = some (.cells cs T (0, 0)) → T ≠ E → g ≠ bg := fun bg cs T hk hT e => by
    subst e
    rw [hg] at hk
    simp only [Option.some.injEq, Obj.cells.injEq] at hk
    exact hT hk.2.1.symm
  refine ⟨⟨fun k hk => ?_, h.ap⟩, hb, fun T hT k cs hk => ?_, hne⟩
  · by_cases e : k = n
    · subst e; rw [hv]; exact hs1
    · rw [← half1_other mk n i len C k e]
      have hn2 : (vs k).ownBlock ≠ some g := fun e2 => h.ap k n hk hn e g e2 (by rw [hv]; rfl)
      exact ownsRow_setCell_other (h.own k hk) hn2 _
  · have hn2 := hne k cs T hk hT
    exact heap_setCell_other w ⟨g, i, none⟩ k _ (fun e => hn2 e.symm)
end Go.Proofs.YtfmcjmkdlldlhaaDoor

namespace Go.Proofs.YtfmcjmkdlldlhaaDoor
open Go.RowKit

abbrev VV := Value × Value
def vv0 : VV := (undef, undef)
def row2 (l : List VV) : List Value := l.flatMap fun m => [m.1, m.2]
theorem row2_len (l : List VV) : (row2 l).length = l.length * 2 := by
  unfold row2
  induction l with
  | nil => rfl
  | cons m l ih => simp at ih ⊢; omega
theorem row2_get : ∀ (l : List VV) (i : Nat), i < l.length → (row2 l)[i * 2]? = some (l[i]?.getD vv0).1 ∧ (row2 l)[i * 2 + 1]? = some (l[i]?.getD vv0).2
  | [], i, h => absurd h (Nat.not_lt_zero _)
  | m :: l, 0, _ => by simp [row2]
  | m :: l, i + 1, h => by
    have := row2_get l i (by simpa using h)
    unfold row2 at this ⊢
    rw [List.flatMap_cons, show (i + 1) * 2 = i * 2 + 1 + 1 by omega]
    simpa using this
theorem row2_set : ∀ (l : List VV) (i : Nat) (x y : Value), ((row2 l).set (i * 2) x).set (i * 2 + 1) y = row2 (l.set i (x, y))
  | [], i, x, y => by simp [row2]
  | m :: l, 0, x, y => by simp [row2]
  | m :: l, i + 1, x, y => by
    have := row2_set l i x y
    unfold row2 at this ⊢
    rw [List.flatMap_cons, List.set_cons_succ, List.flatMap_cons, show (i + 1) * 2 = i * 2 + 1 + 1 by omega]
    simpa using this
theorem row2_append (a b : List VV) : row2 (a ++ b) = row2 a ++ row2 b := by unfold row2; rw [List.flatMap_append]

/-- Block g of w is just the pairs l. -/
def Arr2 (w : World) (g : Nat) (T : TypeId) (l : List VV) : Prop := w.heap[g]? = some (.cells (row2 l).toArray T (0, 0))
theorem Arr2.lt {w : World} {g : Nat} {T : TypeId} {l : List VV} (h : Arr2 w g T l) : g < w.heap.size := (Array.getElem?_eq_some_iff.1 h).1
theorem Arr2.cell {w : World} {g : Nat} {T : TypeId} {l : List VV} (h : Arr2 w g T l) (i : Nat) (hi : i < l.length) :
    w.cell? ⟨g, i * 2, none⟩ = some (l[i]?.getD vv0).1 ∧ w.cell? ⟨g, i * 2 + 1, none⟩ = some (l[i]?.getD vv0).2 := by
  have := row2_get l i hi
  rw [cell_of_row w g _ _ T (0, 0) h, cell_of_row w g _ _ T (0, 0) h]
  simpa using this
theorem Arr2.frozen {w : World} {g : Nat} {T : TypeId} {l : List VV} (h : Arr2 w g T l) (i : Nat) : w.frozen? ⟨g, i, none⟩ = false := frozen_of_row w g i _ T h
theorem Arr2.set {w : World} {g : Nat} {T : TypeId} {l : List VV} (h : Arr2 w g T l) (i : Nat) (x y : Value) : Arr2 ((w.setCell ⟨g, i * 2, none⟩ x).setCell ⟨g, i * 2 + 1, none⟩ y) g T (l.set i (x, y)) := by
  unfold Arr2
  have h1 := heap_setCell_same w g (i * 2) _ T x h
  rw [heap_setCell_same _ g (i * 2 + 1) _ T y h1]
  congr 2
  apply Array.ext'
  rw [← Array.toList_setIfInBounds] at *
  simp only [List.setIfInBounds_toArray]
  exact row2_set l i x y
theorem Arr2.keep {w w' : World} {g : Nat} {T : TypeId} {l : List VV} (h : Arr2 w g T l) (hk : w'.heap[g]? = w.heap[g]?) : Arr2 w' g T l := hk.trans h
theorem Arr2.below {w w' : World} {g : Nat} {T : TypeId} {l : List VV} (h : Arr2 w g T l) (hb : Below w.heap.size w w') : Arr2 w' g T l := h.keep (hb.block g h.lt)
theorem Arr2.new (w : World) (T : TypeId) (l : List VV) : Arr2 (w.alloc (.cells (row2 l).toArray T)) w.heap.size T l := heap_alloc_new w _

theorem pair_cells2 (c : Value → Value → Nat → Value) (a b : Value) (h0 : ∀ k, c a b (k * 2) = a) (h1 : ∀ k, c a b (k * 2 + 1) = b) : ∀ k, (List.range (k * 2)).map (c a b) = row2 (List.replicate k (a, b))
  | 0 => rfl
  | k + 1 => by
    rw [show (k + 1) * 2 = k * 2 + 1 + 1 by omega, List.range_succ, List.range_succ, List.map_append, List.map_append, pair_cells2 c a b h0 h1 k, List.replicate_succ', row2_append]
    simp [h0, h1, row2]
theorem made2 (w : World) (ts te : TypeId) (a b : Value) (n by_ : Nat) (ht : Tryd.prog.underlying ts = some (.slice te)) (hinfo : (Tryd.prog.info? te).map (fun i => (i.zero, i.size, i.bytes)) = some (some (.agg #[a, b]), 2, by_)) (hn : n ≤ 2147483647) (hby : by_ ≤ 4096) :
    (Instr.makeSlice ts (.int .i64 ((n : Int) + 64)) (.int .i64 ((n : Int) + 64))).run Tryd.prog w = .ok (.slice (some ⟨w.heap.size, 0, none⟩) (n + 64) (n + 64)) (w.alloc (.cells (row2 (List.replicate (n + 64) (a, b))).toArray te)) := by
  obtain ⟨i, hi, hz, hs, hb⟩ := info_parts hinfo
  have hb64 : (i.bytes : Int) * ((n : Int) + 64) ≤ 4096 * 2147483711 := Int.mul_le_mul (by omega) (by omega) (by omega) (by omega)
  have h := run_make (P := Tryd.prog) w ts te i _ ht hi hz .i64 .i64 ((n : Int) + 64) ((n : Int) + 64) (by omega) (by omega) (by first | omega | (rw [Int.mul_comm]; omega)) (by omega)
  rw [h, hs]
  have e1 : ((n : Int) + 64).toNat = n + 64 := by omega
  have e : madeCells (Value.cells (.agg #[a, b])) ((n + 64) * 2) = (row2 (List.replicate (n + 64) (a, b))).toArray := by
    generalize n + 64 = k
    apply Array.ext'
    have := pair_cells2 (fun a b j => #[a, b][j % 2]!) a b (fun k => by simp) (fun k => by simp [Nat.add_mod]) k
    simp only [madeCells, Value.cells, Array.toList_map, Array.toList_range]
    rw [show (#[a, b] : Array Value).size = 2 from rfl, this]
  rw [e1, e]

/-! ### Marks behind a list -/
def wideG {α : Type} (f : Nat → α) (l : List α) : List α := l ++ (List.range 64).map fun i => f (l.length + i)
theorem wideG_len {α : Type} (f : Nat → α) (l : List α) : (wideG f l).length = l.length + 64 := by simp [wideG]
theorem wideG_lo {α : Type} (d : α) (f : Nat → α) (l : List α) (j : Nat) (h : j < l.length) : (wideG f l)[j]?.getD d = l[j]?.getD d := by
  unfold wideG; rw [List.getElem?_append_left h]
theorem wideG_hi {α : Type} (d : α) (f : Nat → α) (l : List α) (j : Nat) (h : l.length ≤ j) (h2 : j < l.length + 64) : (wideG f l)[j]?.getD d = f j := by
  unfold wideG
  rw [List.getElem?_append_right h, List.getElem?_map, List.getElem?_range (by omega)]
  simp only [Option.map_some, Option.getD_some]
  congr 1
  omega
theorem ext_ofG {α : Type} (d : α) (l m : List α) (hl : l.length = m.length) (h : ∀ j : Nat, j < l.length → l[j]?.getD d = m[j]?.getD d) : l = m := by
  apply List.ext_getElem hl
  intro j h1 h2
  have := h j h1
  rwa [List.getElem?_eq_getElem h1, List.getElem?_eq_getElem h2, Option.getD_some, Option.getD_some] at this

/-! ### The numbers of the marks -/
theorem num_any (w : World) (n i : Nat) (hn : n ≤ 4294967296) (hi : i ≤ 1125899906842624) : Calls Tryd.prog 56 #[.int .i64 n, .int .i64 i] w fun e w' => e = .returned (.int .i64 (1048576 * (n : Int) + (i : Int) + 1)) ∧ w = w' := by
  go_enter Tryd.func56, Tryd.ntmps56
  go_wp2_with fail
  go_ret
  exact ⟨rfl, rfl⟩
theorem num9 (w : World) (i : Nat) (hi : i ≤ 1125899906842624) : Calls Tryd.prog 56 #[.int .i64 9, .int .i64 i] w fun e w' => e = .returned (.int .i64 (1048576 * 9 + (i : Int) + 1)) ∧ w = w' := num_any w 9 i (by omega) hi
theorem num9q (w : World) (i q : Nat) (hi : i ≤ 1125899906842624) : Calls Tryd.prog 56 #[.int .i64 9, .int .i64 i] (w.drewN q) fun e w' => e = .returned (.int .i64 (1048576 * 9 + (i : Int) + 1)) ∧ ∃ m, w' = w.drewN m :=
  (num9 _ i hi).mono fun _ _ ⟨e, h⟩ => ⟨e, q, h.symm⟩
end Go.Proofs.YtfmcjmkdlldlhaaDoor

namespace Go.Proofs.YtfmcjmkdlldlhaaDoor
open Go.RowKit

abbrev shE (n i : Nat) : Int := (1048576 * (n : Int) + (i : Int) + 1) / 2 ^ (20 + i % 8)
/-- The mark of a list of bools. -/
def bo (n i : Nat) : Bool := bits BinOp.and IntKind.i64 (shE n i) 1 == 1
theorem num_bel (w : World) (n i : Nat) (hn : n ≤ 4294967296) (hi : i ≤ 1125899906842624) : Calls Tryd.prog 56 #[.int .i64 n, .int .i64 i] w fun e w' => e = .returned (.int .i64 (1048576 * (n : Int) + (i : Int) + 1)) ∧ Below w.heap.size w w' :=
  (num_any w n i hn hi).mono fun _ _ ⟨e, h⟩ => ⟨e, h ▸ Below.refl _ _⟩
theorem infoBoo : (Tryd.prog.info? 4).map (fun i => (i.zero, i.size, i.bytes)) = some (some (.bool false), 1, 1) := by kernel_rfl
def mkBo (n i : Nat) : List Value := [.bool (bo n i)]
theorem mkBo_len (n i : Nat) : (mkBo n i).length = 1 := rfl
theorem mkBo_at (n q i : Nat) (h : i < q) : (marks mkBo n q)[i]? = some (.bool (bo n i)) := by
  have := marks_at mkBo mkBo_len n q i 0 h Nat.one_pos
  simpa [mkBo] using this
theorem infoLBo : (Tryd.prog.info? 71).map (fun i => (i.zero, i.size, i.bytes)) = some (some (.slice none 0 0), 1, 24) := by kernel_rfl
theorem neOL : (4 : TypeId) ≠ 71 := by decide
theorem neLO : (71 : TypeId) ≠ 4 := by decide
theorem neOG : (4 : TypeId) ≠ 65 := by decide
theorem neLOG : (71 : TypeId) ≠ 65 := by decide
/-- What phase three reads. -/
structure PX (w wr : World) (base bg m : Nat) (T : Nat → Prop) (bv v5 v6 : Value) (vs : Nat → Value) (len : Nat → Nat) (ones mores : Nat → Value) : Prop where
  g : Grown wr base 4 1 m mkBo vs len m ones mores
  l : LstG 71 wr base bv v5 v6 m m m vs ones mores
  f : FrT w wr base bg T
theorem PX.below1 {w wr w' : World} {base bg m : Nat} {T : Nat → Prop} {bv v5 v6 : Value} {vs : Nat → Value} {len : Nat → Nat} {ones mores : Nat → Value} {fs : List Value} (h : PX w wr base bg m T bv v5 v6 vs len ones mores) (hbag : BagAt w bg fs) (hbase : base ≤ w.heap.size) (hb : Below wr.heap.size wr w') : PX w w' base bg m T bv v5 v6 vs len ones mores :=
  ⟨h.g.keepT (KeepT.of_below hb), h.l.keepT (KeepT.of_below hb), h.f.below1 hbag hb (Nat.le_trans hbase h.f.size)⟩
set_option maxRecDepth 100000 in
set_option maxHeartbeats 2000000 in
theorem apartBools_T (T : Nat → Prop) (w : World) (base bg m : Nat) (bv : Value) (fs : List Value) (vs : Nat → Value) (len : Nat → Nat) (C : Nat → List Value) (hbag : BagAt w bg fs) (hf4 : fs[2]? = some bv) (hbv : w.ownsRow base 71 1 bv m (firstN vs m)) (hm : m ≤ 400) (hB : Bags w base 4 1 m vs len C)
    (hlen : ∀ k, k < m → len k ≤ 140737488355000) (hbase : base ≤ w.heap.size) (hT : ∀ k, T k → k < w.heap.size) (hTV : ∀ j, j < m → FarT T (vs j)) :
    Calls Tryd.prog 37 #[.pointer (some ⟨bg, 0, none⟩)] w fun e w' => e = .returned (.bool true) ∧ FrT w w' base bg T := by
  obtain ⟨bb, bc, rfl⟩ := own_shape hbv
  have HBAG := Lib.hid hbag
  have HF4 := Lib.hid hf4
  have HBV := Lib.hid hbv
  have HLEN := Lib.hid hlen
  have HTV := Lib.hid hTV
  have hCl : ∀ k, k < m → (C k).length = len k := fun k hk => by have := (hB.own k hk).1; omega
  have HCL := Lib.hid hCl
  have hB0 : Bags w base 4 1 m vs len (half1 mkBo 0 0 len C) := by rw [half1_zero]; exact hB
  clear hbag hf4 hbv hlen hCl hB hTV
  go_enter Tryd.func37, Tryd.ntmps37
  go_wp2
  go_loopw [3] (fun v3 wr => ∃ n : Nat, n ≤ m ∧ v3 = .int .i64 n ∧ Bags wr base 4 1 m vs len (half1 mkBo n 0 len C) ∧ wr.ownsRow base 71 1 (.slice bb m bc) m (firstN vs m) ∧ FrT w wr base bg T) (fun v3 _ => m - (intOf v3).toNat)
  case atStart => exact ⟨0, Nat.zero_le _, rfl, hB0, HBV.out, FrT.refl _ _ _ _ hT⟩
  case round =>
    obtain ⟨n, hn, rfl, hBn, hbv, hF⟩ := hrel
    have hc0 : wr.cell? ⟨bg, 2, none⟩ = some (.slice bb m bc) := ((hF.at_ HBAG.out).cell 2).trans HF4.out
    by_cases hlt : n < m
    · have hd1 : decide ((n : Int) < (m : Int)) = true := by simp; omega
      obtain ⟨gb, cb, he, hmc⟩ := own_someG hbv (by omega)
      simp only [Value.slice.injEq] at he
      obtain ⟨rfl, -, rfl⟩ := he
      have hgbb := hF.at_ HBAG.out
      have hcn : wr.cell? ⟨gb, n, none⟩ = some (vs n) := (row_cell hbv n hlt).trans (firstN_at vs m n hlt)
      obtain ⟨an, cn, hvn⟩ := own_shape (hBn.own n hlt)
      rw [hvn] at hcn
      have hln := HLEN.out n hlt
      have HVN := Lib.hid hvn
      have HB1 := Lib.hid hBn
      have HBV1 := Lib.hid hbv
      have HF1 := Lib.hid hF
      obtain ⟨ln, hlnn⟩ : ∃ q, len n = q := ⟨_, rfl⟩
      have HLN := Lib.hid hlnn
      rw [hlnn] at hln hcn
      clear hBn hbv hF hB0 hvn hlnn hgbb
      go_wp2_with fail
      rename World => w1
      go_loopw [4] (fun v4 wr => ∃ i : Nat, i ≤ ln ∧ v4 = .int .i64 i ∧ Bags wr base 4 1 m vs len (half1 mkBo n i len C) ∧ wr.ownsRow base 71 1 (.slice (some ⟨gb, 0, none⟩) m bc) m (firstN vs m) ∧ FrT w wr base bg T) (fun v4 _ => ln - (intOf v4).toNat)
      case atStart => exact ⟨0, Nat.zero_le _, rfl, HB1.out, HBV1.out, HF1.out⟩
      case round =>
        obtain ⟨i, hi, rfl, hBn, hbv, hF⟩ := hrel
        clear hc0 hcn
        have hc0 : wr.cell? ⟨bg, 2, none⟩ = some (.slice (some ⟨gb, 0, none⟩) m bc) := ((hF.at_ HBAG.out).cell 2).trans HF4.out
        have hcn : wr.cell? ⟨gb, n, none⟩ = some (.slice an ln cn) := by
          rw [← HLN.out, ← HVN.out]
          exact (row_cell hbv n hlt).trans (firstN_at vs m n hlt)
        by_cases hil : i < ln
        · have hown := hBn.own n hlt
          rw [HVN.out, HLN.out] at hown
          obtain ⟨gn, cn', he, hnc⟩ := own_some1 hown (by omega)
          simp only [Value.slice.injEq] at he
          obtain ⟨rfl, -, rfl⟩ := he
          have hcni : (i : Int) < (ln : Int) := by omega
          have HB2 := Lib.hid hBn
          have HBV2 := Lib.hid hbv
          have HF2 := Lib.hid hF
          have hbs : base ≤ wr.heap.size := Nat.le_trans hbase hF.size
          have HTB : Hid (∀ w', Below wr.heap.size wr w' → Below base w w') := Lib.hid fun w' hb => (HF2.out.bel base w (Below.refl _ _) (Nat.le_refl _)).trans (hb.mono hbs)
          have HTX : Hid (∀ w', Below wr.heap.size wr w' → Calls Tryd.prog 56 #[.int .i64 n, .int .i64 i] w' fun e w2 => e = .returned (.int .i64 (1048576 * (n : Int) + (i : Int) + 1)) ∧ Below w'.heap.size w' w2) := Lib.hid fun w' hb => num_bel w' n i (by omega) (by omega)
          have HSS : Hid (∀ w', Below wr.heap.size wr w' → w'.cell? ⟨bg, 2, none⟩ = some (.slice (some ⟨gb, 0, none⟩) m bc) ∧ w'.cell? ⟨gb, n, none⟩ = some (.slice (some ⟨gn, 0, none⟩) ln cn)) := Lib.hid fun w' hb => ⟨by rw [hb.cell (World.block_lt_of_cell? wr _ hc0)]; exact hc0, by rw [hb.cell (World.block_lt_of_cell? wr _ hcn)]; exact hcn⟩
          have HFR : Hid (∀ w', Below wr.heap.size wr w' → (∃ x, w'.cell? ⟨gn, i, none⟩ = some x) ∧ w'.frozen? ⟨gn, i, none⟩ = false) := Lib.hid fun w' hb => by
            have hB' := HB2.out.keepT (KeepT.of_below hb)
            have ho := hB'.own n hlt
            rw [HVN.out, HLN.out] at ho
            exact ⟨⟨_, (World.ownsRow.cellAt ho i (by omega)).trans (List.getElem?_eq_getElem (by rw [ho.1]; omega))⟩, World.ownsRow.frozenAt ho i⟩
          have HR : Hid (∀ w', Below wr.heap.size wr w' → (Bags (w'.setCell ⟨gn, i, none⟩ (.bool (bo n i))) base 4 1 m vs len (half1 mkBo n (i + 1) len C) ∧ (w'.setCell ⟨gn, i, none⟩ (.bool (bo n i))).ownsRow base 71 1 (.slice (some ⟨gb, 0, none⟩) m bc) m (firstN vs m) ∧ FrT w (w'.setCell ⟨gn, i, none⟩ (.bool (bo n i))) base bg T) ∧ ((w'.setCell ⟨gn, i, none⟩ (.bool (bo n i))).cell? ⟨bg, 2, none⟩ = some (.slice (some ⟨gb, 0, none⟩) m bc) ∧ (w'.setCell ⟨gn, i, none⟩ (.bool (bo n i))).cell? ⟨gb, n, none⟩ = some (.slice (some ⟨gn, 0, none⟩) ln cn))) := Lib.hid fun w' hb => by
            have hB' := HB2.out.keepT (KeepT.of_below hb)
            have hV' := (KeepT.of_below (e := 71) hb).own HBV2.out
            have hF' := HF2.out.below1 HBAG.out hb hbs
            obtain ⟨hput, k2, k1, k3⟩ := hB'.put1 (u := .bool (bo n i)) mkBo_len hlt (by rw [HVN.out, HLN.out]) (by rw [HLN.out]; exact hil) (HCL.out n hlt) rfl
            have hgbg : gn ≠ bg := k3 bg _ _ (hF'.at_ HBAG.out) neOG.symm
            have hTn : ¬ T gn := fun e => HTV.out n hlt gn e (by rw [HVN.out]; rfl)
            refine ⟨⟨hput, (k1 _ neLO).own hV', hF'.cell k2 hgbg _ hTn⟩, ?_, ?_⟩
            · have h1 := ((hF'.cell (i := i) k2 hgbg (.bool (bo n i)) hTn).at_ HBAG.out).cell 2
              exact h1.trans HF4.out
            · have h1 := row_cell ((k1 _ neLO).own hV') n hlt
              rw [← HLN.out, ← HVN.out]
              exact h1.trans (firstN_at vs m n hlt)
          have hst : wr.drew.cell? ⟨bg, 2, none⟩ = some (.slice (some ⟨gb, 0, none⟩) m bc) ∧ wr.drew.cell? ⟨gb, n, none⟩ = some (.slice (some ⟨gn, 0, none⟩) ln cn) := HSS.out _ (below_drewN (Below.refl _ wr) 1)
          have HBD : Hid (Below wr.heap.size wr wr.drew) := Lib.hid (below_drewN (Below.refl _ wr) 1)
          clear hown hBn hbv hF
          have hw12 : (i : Int).tmod 8 = ((i % 8 : Nat) : Int) := rfl
          have hw13 : IntKind.i64.wrap (20 + ((i % 8 : Nat) : Int)) = ((20 + i % 8 : Nat) : Int) := by rw [IntWalk.i64_in _ (by omega)]; omega
          have hw14 : IntKind.u64.wrap ((20 + i % 8 : Nat) : Int) = ((20 + i % 8 : Nat) : Int) := by rw [IntKind.wrap_u64]; omega
          have hw13b : IntKind.i64.wrap (20 + (i : Int) % 8) = 20 + (i : Int) % 8 := IntWalk.i64_in _ (by omega)
          have hw14b : IntKind.u64.wrap (20 + (i : Int) % 8) = 20 + (i : Int) % 8 := by rw [IntKind.wrap_u64]; omega
          have hw16 : (20 + (i : Int) % 8).toNat = 20 + i % 8 := by omega
          have hw15 : min (20 + i % 8) 64 = 20 + i % 8 := by omega
          go_upto_region 7 with fail
          clear hc0 hcn
          refine wp_region_held_drew (S := fun w' => w'.cell? ⟨bg, 2, none⟩ = some (.slice (some ⟨gb, 0, none⟩) m bc) ∧ w'.cell? ⟨gb, n, none⟩ = some (.slice (some ⟨gn, 0, none⟩) ln cn)) (by kernel_rfl) hst (fun hHeld => ?_)
          refine wpAnyH_take (i := 0) (v := .pointer (some ⟨bg, 0, none⟩)) rfl (by kernel_rfl) (by kernel_rfl) (by kernel_rfl) (fun _ _ _ h => h) (Or.inl ⟨by rfl, by intro w hSw; obtain ⟨d0, d1⟩ := hSw; go_simp⟩) (by assumption) ?_
          simp only [Act.put, List.getElem_toArray, List.getElem_cons_zero, List.setIfInBounds_toArray, List.set_cons_zero, List.set_cons_succ]
          refine wpAnyH_take (i := 1) (v := .pointer (some ⟨bg, 0, none⟩)) rfl (by kernel_rfl) (by kernel_rfl) (by kernel_rfl) (fun _ _ _ h => h) (Or.inl ⟨by rfl, by intro w hSw; obtain ⟨d0, d1⟩ := hSw; go_simp⟩) (by assumption) ?_
          simp only [Act.put, List.getElem_toArray, List.getElem_cons_zero, List.getElem_cons_succ, List.setIfInBounds_toArray, List.set_cons_zero, List.set_cons_succ]
          refine wpAnyH_take (i := 2) (v := .pointer (some ⟨bg, 2, none⟩)) rfl (by kernel_rfl) (by kernel_rfl) (by kernel_rfl) (fun _ _ _ h => h) (Or.inl ⟨by rfl, by intro w hSw; obtain ⟨d0, d1⟩ := hSw; go_simp⟩) (by assumption) ?_
          simp only [Act.put, List.getElem_toArray, List.getElem_cons_zero, List.getElem_cons_succ, List.setIfInBounds_toArray, List.set_cons_zero, List.set_cons_succ]
          refine wpAnyH_take (i := 3) (v := .slice (some ⟨gb, 0, none⟩) m bc) rfl (by kernel_rfl) (by kernel_rfl) (by kernel_rfl) (fun _ _ _ h => h) (Or.inl ⟨by rfl, by intro w hSw; obtain ⟨d0, d1⟩ := hSw; go_simp⟩) (by assumption) ?_
          simp only [Act.put, List.getElem_toArray, List.getElem_cons_zero, List.getElem_cons_succ, List.setIfInBounds_toArray, List.set_cons_zero, List.set_cons_succ]
          refine wpAnyH_take (i := 4) (v := .int .i64 (n : Int)) rfl (by kernel_rfl) (by kernel_rfl) (by kernel_rfl) (fun _ _ _ h => h) (Or.inl ⟨by rfl, by intro w hSw; obtain ⟨d0, d1⟩ := hSw; go_simp⟩) (by assumption) ?_
          simp only [Act.put, List.getElem_toArray, List.getElem_cons_zero, List.getElem_cons_succ, List.setIfInBounds_toArray, List.set_cons_zero, List.set_cons_succ]
          refine wpAnyH_take (i := 5) (v := .pointer (some ⟨gb, n, none⟩)) rfl (by kernel_rfl) (by kernel_rfl) (by kernel_rfl) (fun _ _ _ h => h) (Or.inl ⟨by rfl, by intro w hSw; obtain ⟨d0, d1⟩ := hSw; go_simp⟩) (by assumption) ?_
          simp only [Act.put, List.getElem_toArray, List.getElem_cons_zero, List.getElem_cons_succ, List.setIfInBounds_toArray, List.set_cons_zero, List.set_cons_succ]
          refine wpAnyH_take (i := 6) (v := .slice (some ⟨gn, 0, none⟩) ln cn) rfl (by kernel_rfl) (by kernel_rfl) (by kernel_rfl) (fun _ _ _ h => h) (Or.inl ⟨by rfl, by intro w hSw; obtain ⟨d0, d1⟩ := hSw; go_simp⟩) (by assumption) ?_
          simp only [Act.put, List.getElem_toArray, List.getElem_cons_zero, List.getElem_cons_succ, List.setIfInBounds_toArray, List.set_cons_zero, List.set_cons_succ]
          refine wpAnyH_take (i := 7) (v := .int .i64 (i : Int)) rfl (by kernel_rfl) (by kernel_rfl) (by kernel_rfl) (fun _ _ _ h => h) (Or.inl ⟨by rfl, by intro w hSw; obtain ⟨d0, d1⟩ := hSw; go_simp⟩) (by assumption) ?_
          simp only [Act.put, List.getElem_toArray, List.getElem_cons_zero, List.getElem_cons_succ, List.setIfInBounds_toArray, List.set_cons_zero, List.set_cons_succ]
          refine wpAnyH_take (i := 8) (v := .int .i64 (n : Int)) rfl (by kernel_rfl) (by kernel_rfl) (by kernel_rfl) (fun _ _ _ h => h) (Or.inl ⟨by rfl, by intro w hSw; obtain ⟨d0, d1⟩ := hSw; go_simp⟩) (by assumption) ?_
          simp only [Act.put, List.getElem_toArray, List.getElem_cons_zero, List.getElem_cons_succ, List.setIfInBounds_toArray, List.set_cons_zero, List.set_cons_succ]
          refine wpAnyH_take (i := 9) (v := .int .i64 (i : Int)) rfl (by kernel_rfl) (by kernel_rfl) (by kernel_rfl) (fun _ _ _ h => h) (Or.inl ⟨by rfl, by intro w hSw; obtain ⟨d0, d1⟩ := hSw; go_simp⟩) (by assumption) ?_
          simp only [Act.put, List.getElem_toArray, List.getElem_cons_zero, List.getElem_cons_succ, List.setIfInBounds_toArray, List.set_cons_zero, List.set_cons_succ]
          refine wpAnyH_take (i := 11) (v := .int .i64 (i : Int)) rfl (by kernel_rfl) (by kernel_rfl) (by kernel_rfl) (fun _ _ _ h => h) (Or.inl ⟨by rfl, by intro w hSw; obtain ⟨d0, d1⟩ := hSw; go_simp⟩) (by assumption) ?_
          simp only [Act.put, List.getElem_toArray, List.getElem_cons_zero, List.getElem_cons_succ, List.setIfInBounds_toArray, List.set_cons_zero, List.set_cons_succ]
          refine wpAnyH_take (i := 12) (v := .int .i64 ((i % 8 : Nat) : Int)) rfl (by kernel_rfl) (by kernel_rfl) (by kernel_rfl) (fun _ _ _ h => h) (Or.inl ⟨by rfl, by intro w hSw; obtain ⟨d0, d1⟩ := hSw; go_simp⟩) (by assumption) ?_
          simp only [Act.put, List.getElem_toArray, List.getElem_cons_zero, List.getElem_cons_succ, List.setIfInBounds_toArray, List.set_cons_zero, List.set_cons_succ]
          refine wpAnyH_take (i := 13) (v := .int .i64 ((20 + i % 8 : Nat) : Int)) rfl (by kernel_rfl) (by kernel_rfl) (by kernel_rfl) (fun _ _ _ h => h) (Or.inl ⟨by rfl, by intro w hSw; obtain ⟨d0, d1⟩ := hSw; go_simp⟩) (by assumption) ?_
          simp only [Act.put, List.getElem_toArray, List.getElem_cons_zero, List.getElem_cons_succ, List.setIfInBounds_toArray, List.set_cons_zero, List.set_cons_succ]
          refine wpAnyH_take (i := 14) (v := .int .u64 ((20 + i % 8 : Nat) : Int)) rfl (by kernel_rfl) (by kernel_rfl) (by kernel_rfl) (fun _ _ _ h => h) (Or.inl ⟨by rfl, by intro w hSw; obtain ⟨d0, d1⟩ := hSw; go_simp⟩) (by assumption) ?_
          simp only [Act.put, List.getElem_toArray, List.getElem_cons_zero, List.getElem_cons_succ, List.setIfInBounds_toArray, List.set_cons_zero, List.set_cons_succ]
          refine wpAnyH_ready (rs := [10]) (by kernel_rfl) (by simp) ?_
          refine AllReadyH.cons rfl (fun K hK => ?_) AllReadyH.nil
          go_simp
          refine (HTX.out _ HBD.out).mono ?_
          rintro r wn ⟨rfl, hbn⟩
          have hHb : Below wr.heap.size wr wn := HBD.out.trans (hbn.mono HBD.out.size)
          replace hHeld := HSS.out wn hHb
          refine hK.out _ _ hHeld (fun hHeld => ?_)
          clear hK K hbn
          have HRN := Lib.hid (HR.out wn hHb)
          have HFZ := HFR.out wn hHb
          obtain ⟨hce, hfr⟩ := HFZ
          obtain ⟨z0, hce⟩ := hce
          refine wpAnyH_take (i := 15) (v := .int .i64 (shE n i)) rfl (by kernel_rfl) (by kernel_rfl) (by kernel_rfl) (fun _ _ _ h => h) (Or.inl ⟨by rfl, by intro w hSw; obtain ⟨d0, d1⟩ := hSw; go_simp⟩) (by assumption) ?_
          simp only [Act.put, List.getElem_toArray, List.getElem_cons_zero, List.getElem_cons_succ, List.setIfInBounds_toArray, List.set_cons_zero, List.set_cons_succ]
          refine wpAnyH_take (i := 16) (v := .int .i64 (bits BinOp.and IntKind.i64 (shE n i) 1)) rfl (by kernel_rfl) (by kernel_rfl) (by kernel_rfl) (fun _ _ _ h => h) (Or.inl ⟨by rfl, by intro w hSw; obtain ⟨d0, d1⟩ := hSw; go_simp⟩) (by assumption) ?_
          simp only [Act.put, List.getElem_toArray, List.getElem_cons_zero, List.getElem_cons_succ, List.setIfInBounds_toArray, List.set_cons_zero, List.set_cons_succ]
          refine wpAnyH_take (i := 17) (v := .bool (bo n i)) rfl (by kernel_rfl) (by kernel_rfl) (by kernel_rfl) (fun _ _ _ h => h) (Or.inl ⟨by rfl, by intro w hSw; obtain ⟨d0, d1⟩ := hSw; go_simp; rfl⟩) (by assumption) ?_
          simp only [Act.put, List.getElem_toArray, List.getElem_cons_zero, List.getElem_cons_succ, List.setIfInBounds_toArray, List.set_cons_zero, List.set_cons_succ]
          refine wpAnyH_take (i := 18) (v := .pointer (some ⟨gn, i, none⟩)) rfl (by kernel_rfl) (by kernel_rfl) (by kernel_rfl) (fun _ _ _ h => h) (Or.inl ⟨by rfl, by intro w hSw; obtain ⟨d0, d1⟩ := hSw; go_simp⟩) (by assumption) ?_
          simp only [Act.put, List.getElem_toArray, List.getElem_cons_zero, List.getElem_cons_succ, List.setIfInBounds_toArray, List.set_cons_zero, List.set_cons_succ]
          refine wpAnyH_ready (rs := [19]) (by kernel_rfl) (by simp) ?_
          refine AllReadyH.cons rfl (fun K hK => ?_) AllReadyH.nil
          go_simp
          refine hK.out _ _ HRN.out.2 (fun hHeld => ?_)
          clear hK K
          refine wpAnyH_done (by kernel_rfl) ?_ _
          clear hce hfr
          go_wp2_with fail
          go_roundw
          case rel => exact ⟨i + 1, by omega, by go_num, HRN.out.1⟩
          case measure => simp [intOf]; omega
        · obtain rfl : i = ln := by omega
          have HR : Hid (Bags wr base 4 1 m vs len (half1 mkBo (n + 1) 0 len C)) := Lib.hid (by
            rw [← half1_next mkBo n len C (HCL.out n hlt), HLN.out]; exact hBn)
          have HBV2 := Lib.hid hbv
          have HF2 := Lib.hid hF
          clear hBn hbv hF
          go_wp2_with fail
          go_roundw
          case rel => exact ⟨n + 1, by omega, by go_num, HR.out, HBV2.out, HF2.out⟩
          case measure => simp [intOf]; omega
    · obtain rfl : n = m := by omega
      have hG0 : Grown wr base 4 1 n mkBo vs len 0 (fun _ => undef) (fun _ => undef) :=
        ⟨⟨fun k hk => by have := hBn.own k hk; rw [half1_all mkBo n len C k hk] at this; exact this, hBn.ap⟩, fun k hk => absurd hk (Nat.not_lt_zero _), fun k hk => absurd hk (Nat.not_lt_zero _), fun k _ hk => absurd hk (Nat.not_lt_zero _)⟩
      have hL0 : LstG 71 wr base (.slice bb n bc) (.slice none 0 0) (.slice none 0 0) n 0 0 vs (fun _ => undef) (fun _ => undef) :=
        ⟨hbv, World.ownsRow_nil _ _ _ _, World.ownsRow_nil _ _ _ _, fun k h _ => by simp [Value.ownBlock] at h, fun k h _ => by simp [Value.ownBlock] at h, fun k h _ => by simp [Value.ownBlock] at h⟩
      have HG0 := Lib.hid hG0
      have HL0 := Lib.hid hL0
      have HF0 := Lib.hid hF
      clear hG0 hL0 hF hBn hbv hB0 hlt hn
      rename Nat => m
      go_wp2_with fail
      rename World => w1
      go_loopw [5, 6, 7] (fun v5 v6 v7 wr => ∃ (n : Nat) (ones mores : Nat → Value), n ≤ m ∧ v7 = .int .i64 n ∧ Grown wr base 4 1 m mkBo vs len n ones mores ∧ LstG 71 wr base (.slice bb m bc) v5 v6 m n n vs ones mores ∧ FrT w wr base bg T ∧ FarT T v5 ∧ FarT T v6) (fun _ _ v7 _ => m - (intOf v7).toNat)
      case atStart => exact ⟨0, _, _, Nat.zero_le _, rfl, HG0.out, HL0.out, HF0.out, FarT.nil T, FarT.nil T⟩
      case round =>
        obtain ⟨n, ones, mores, hn, rfl, hG, hL, hF, hT5, hT6⟩ := hrel
        clear hc0
        have hc0 : wr.cell? ⟨bg, 2, none⟩ = some (.slice bb m bc) := ((hF.at_ HBAG.out).cell 2).trans HF4.out
        obtain ⟨a5, c5, rfl⟩ := own_shape hL.o
        obtain ⟨a6, c6, rfl⟩ := own_shape hL.m
        by_cases hlt : n < m
        · have hd1 : decide ((n : Int) < (m : Int)) = true := by simp; omega
          obtain ⟨gb, cb, he, hmc⟩ := own_someG hL.b (by omega)
          simp only [Value.slice.injEq] at he
          obtain ⟨rfl, -, rfl⟩ := he
          have hcn : wr.cell? ⟨gb, n, none⟩ = some (vs n) := (row_cell hL.b n hlt).trans (firstN_at vs m n hlt)
          obtain ⟨an, cn, hvn⟩ := own_shape (hG.b.own n hlt)
          rw [hvn] at hcn
          have hln := HLEN.out n hlt
          have HVN := Lib.hid hvn
          have HG := Lib.hid hG
          have HL := Lib.hid hL
          have HF := Lib.hid hF
          obtain ⟨ln, hlnn⟩ : ∃ q, len n = q := ⟨_, rfl⟩
          have HLN := Lib.hid hlnn
          rw [hlnn] at hln hcn
          have HT56 := Lib.hid (And.intro hT5 hT6)
          have HT8 := Lib.hid (show FarT T (.slice an ln cn) from by rw [← hlnn, ← hvn]; exact HTV.out n hlt)
          have hst := hG.start (o1 := undef) hlt
          rw [hvn, hlnn] at hst
          have HST := Lib.hid hst
          clear hG hL hF hvn hlnn hst hT5 hT6
          go_wp2_with fail
          rename World => w2
          go_loopw [5, 8, 9] (fun v5 v8 v9 wr => ∃ (i : Nat) (o1 : Value), ln ≤ i ∧ i ≤ ln + 70 ∧ v9 = .int .i64 i ∧ Grows wr base 4 1 m mkBo vs len n ones mores i v8 o1 ∧ LstG 71 wr base (.slice (some ⟨gb, 0, none⟩) m bc) v5 (.slice a6 n c6) m (if ln < i then n + 1 else n) n vs (fun k => if k = n then o1 else ones k) mores ∧ FrT w wr base bg T ∧ FarT T v5 ∧ FarT T v8) (fun _ _ v9 _ => ln + 70 - (intOf v9).toNat)
          case atStart => exact ⟨ln, undef, Nat.le_refl _, by omega, rfl, HST.out, by rw [if_neg (Nat.lt_irrefl _)]; exact HL.out.congr (fun k hk => by rw [if_neg (by omega)]), HF.out, HT56.out.1, HT8.out⟩
          case round =>
            obtain ⟨i, o1, hi0, hi1, rfl, hG, hL, hF, hT5, hT8⟩ := hrel
            have HT58 := Lib.hid (And.intro hT5 hT8)
            clear hT5 hT8
            clear hc0 hcn
            have hc0 : wr.cell? ⟨bg, 2, none⟩ = some (.slice (some ⟨gb, 0, none⟩) m bc) := ((hF.at_ HBAG.out).cell 2).trans HF4.out
            have hcn : wr.cell? ⟨gb, n, none⟩ = some (.slice an ln cn) := by
              rw [← HLN.out, ← HVN.out]
              exact (row_cell hL.b n hlt).trans (firstN_at vs m n hlt)
            obtain ⟨a8, c8, rfl⟩ := own_shape hG.own
            have hbs : base ≤ wr.heap.size := Nat.le_trans hbase hF.size
            by_cases hil : i < ln + 70
            · have hd2 : decide ((i : Int) < (ln : Int) + 70) = true := by simp; omega
              have HTX := Lib.hid (num_bel wr n i (by omega) (by omega))
              go_wp2_with (go_at_call 56; refine HTX.out.mono ?_)
              rintro e wx ⟨rfl, bx⟩
              clear hc0 hcn
              replace hG := hG.keepT (KeepT.of_below bx)
              replace hL := hL.keepT (KeepT.of_below bx)
              replace hF := hF.below1 HBAG.out bx hbs
              replace hbs : base ≤ wx.heap.size := Nat.le_trans hbs bx.size
              clear HTX bx
              have hc0 : wx.cell? ⟨bg, 2, none⟩ = some (.slice (some ⟨gb, 0, none⟩) m bc) := ((hF.at_ HBAG.out).cell 2).trans HF4.out
              have hcn : wx.cell? ⟨gb, n, none⟩ = some (.slice an ln cn) := by
                rw [← HLN.out, ← HVN.out]
                exact (row_cell hL.b n hlt).trans (firstN_at vs m n hlt)
              have hown := hG.own
              have HG := Lib.hid hG
              have HF := Lib.hid hF
              clear hG hF
              by_cases h0 : i = ln
              · have ht : ((i : Int) == (ln : Int)) = true := by simp; omega
                have hlen0 : i = len n := by rw [HLN.out]; exact h0
                rw [if_neg (by omega)] at hL
                obtain ⟨a5', c5', rfl⟩ := own_shape hL.o
                have HL := Lib.hid hL
                have HLE := Lib.hid hlen0
                clear hL hlen0 h0
                go_wp2_with (at_builtin; refine append_1g rfl (.tmp 85) (.tmp 96) 71 4 _ 1 rfl Tryd.underlying71 infoBoo rfl base _ i _ (.bool (bo n i)) rfl hown rfl rfl (by omega) (by omega) hbs ?_)
                intro v' w3 hown' hold hp
                have hG' := HG.out.step (by omega) hlt (Nat.le_of_eq HLE.out.symm) hown' hold hp
                rw [if_pos HLE.out] at hG'
                have hL' := HL.out.keepT (KeepT.of_app hown hp neOL)
                have hF' := HF.out.app HBAG.out hown neOG hp HT58.out.2
                have HT8' := Lib.hid (HT58.out.2.app HF.out hp)
                obtain ⟨a8', c8', rfl⟩ := own_shape hown'
                have hc0 : w3.cell? ⟨bg, 2, none⟩ = some (.slice (some ⟨gb, 0, none⟩) m bc) := ((hF'.at_ HBAG.out).cell 2).trans HF4.out
                have hcn : w3.cell? ⟨gb, n, none⟩ = some (.slice an ln cn) := by
                  rw [← HLN.out, ← HVN.out]
                  exact (row_cell hL'.b n hlt).trans (firstN_at vs m n hlt)
                have hbs' : base ≤ w3.heap.size := Nat.le_trans hbs hp.size
                have ho5 := hL'.o
                have HG' := Lib.hid hG'
                have HL' := Lib.hid hL'
                have HF' := Lib.hid hF'
                clear hG' hL' hF' hown hown' hold hp hbs
                go_wp2_with (at_builtin; refine append_lg rfl (.tmp 108) (.tmp 110) 47 71 rfl Tryd.underlying47 infoLBo base _ n _ _ rfl ho5 rfl rfl (by omega) hbs' ?_)
                intro v5' w4 ho5' hold5 hp5
                have hL2 := HL'.out.one ho5' hp5
                have HL2 := Lib.hid (hL2.congr (ones' := fun k => if k = n then .slice a8' (i + 1) c8' else ones k) (fun k hk => by
                  by_cases e : k = n
                  · rw [if_pos e, if_pos e]
                  · rw [if_neg e, if_neg e, if_neg e]))
                have HG2 := Lib.hid (HG'.out.keepT (KeepT.of_app ho5 hp5 neLO))
                have HF2 := Lib.hid (HF'.out.app HBAG.out ho5 neLOG hp5 HT58.out.1)
                have HT5' := Lib.hid (HT58.out.1.app HF'.out hp5)
                obtain ⟨a5'', c5'', rfl⟩ := own_shape ho5'
                clear hL2 ho5 ho5' hold5 hp5 hc0 hcn
                go_wp2_with fail
                go_roundw
                case rel => exact ⟨i + 1, _, by omega, by omega, by go_num, HG2.out, by rw [if_pos (by have := HLE.out; have := HLN.out; omega)]; exact HL2.out, HF2.out, HT5'.out, HT8'.out⟩
                case measure => simp [intOf]; omega
              · have ht : ((i : Int) == (ln : Int)) = false := by simp; omega
                have hlen0 : i ≠ len n := by rw [HLN.out]; exact h0
                have hlen1 : len n ≤ i := by rw [HLN.out]; exact hi0
                rw [if_pos (by omega)] at hL
                obtain ⟨a5', c5', rfl⟩ := own_shape hL.o
                have HL := Lib.hid hL
                have HLE := Lib.hid hlen0
                clear hL hlen0
                go_wp2_with (at_builtin; refine append_1g rfl (.tmp 85) (.tmp 96) 71 4 _ 1 rfl Tryd.underlying71 infoBoo rfl base _ i _ (.bool (bo n i)) rfl hown rfl rfl (by omega) (by omega) hbs ?_)
                intro v' w3 hown' hold hp
                have hG' := HG.out.step (by omega) hlt hlen1 hown' hold hp
                rw [if_neg HLE.out] at hG'
                have hL' := HL.out.keepT (KeepT.of_app hown hp neOL)
                have hF' := HF.out.app HBAG.out hown neOG hp HT58.out.2
                have HT8' := Lib.hid (HT58.out.2.app HF.out hp)
                obtain ⟨a8', c8', rfl⟩ := own_shape hown'
                have hc0 : w3.cell? ⟨bg, 2, none⟩ = some (.slice (some ⟨gb, 0, none⟩) m bc) := ((hF'.at_ HBAG.out).cell 2).trans HF4.out
                have hcn : w3.cell? ⟨gb, n, none⟩ = some (.slice an ln cn) := by
                  rw [← HLN.out, ← HVN.out]
                  exact (row_cell hL'.b n hlt).trans (firstN_at vs m n hlt)
                have HG' := Lib.hid hG'
                have HL' := Lib.hid hL'
                have HF' := Lib.hid hF'
                clear hG' hL' hF' hown hown' hold hp hbs hlen1
                go_wp2_with fail
                go_roundw
                case rel => exact ⟨i + 1, _, by omega, by omega, by go_num, HG'.out, by rw [if_pos (by omega)]; exact HL'.out, HF'.out, HT58.out.1, HT8'.out⟩
                case measure => simp [intOf]; omega
            · obtain rfl : i = ln + 70 := by omega
              rw [if_pos (by omega)] at hL
              obtain ⟨a5', c5', rfl⟩ := own_shape hL.o
              have hd2 : decide (((ln + 70 : Nat) : Int) < (ln : Int) + 70) = false := by simp
              have hGd := (show Grows wr base 4 1 m mkBo vs len n ones mores (len n + 70) (.slice a8 (ln + 70) c8) o1 by rw [HLN.out]; exact hG).done hlt
              have hm6 := hL.m
              have HG := Lib.hid hGd
              have HL := Lib.hid hL
              have HF := Lib.hid hF
              clear hGd hG hL hF hil hi1
              go_wp2_with (at_builtin; refine append_lg rfl (.tmp 112) (.tmp 114) 47 71 rfl Tryd.underlying47 infoLBo base _ n _ _ rfl hm6 rfl rfl (by omega) hbs ?_)
              intro v6' w3 ho6' hold6 hp6
              have HL2 := Lib.hid (HL.out.more ho6' hp6)
              have HG2 := Lib.hid (HG.out.keepT (KeepT.of_app hm6 hp6 neLO))
              have HF2 := Lib.hid (HF.out.app HBAG.out hm6 neLOG hp6 HT56.out.2)
              have HT6' := Lib.hid (HT56.out.2.app HF.out hp6)
              obtain ⟨a6', c6', rfl⟩ := own_shape ho6'
              clear ho6' hold6 hp6 hm6 hc0 hcn
              go_wp2_with fail
              go_roundw
              case rel => exact ⟨n + 1, _, _, by omega, by go_num, HG2.out, HL2.out, HF2.out, HT58.out.1, HT6'.out⟩
              case measure => simp [intOf]; omega
        · obtain rfl : n = m := by omega
          have HG := Lib.hid hG
          have HL := Lib.hid hL
          have HF := Lib.hid hF
          clear hG hL hF hlt hn
          go_wp2_with fail
          have HP := Lib.hid (PX.mk HG.out HL.out HF.out)
          clear HG HL HF
          rename World => w9
          go_loopw [10] (fun v wr => ∃ k : Nat, k ≤ n ∧ v = .int .i64 k ∧ PX w wr base bg n T (.slice bb n bc) (.slice a5 n c5) (.slice a6 n c6) vs len ones mores) (fun v _ => n - (intOf v).toNat)
          case atStart => exact ⟨0, Nat.zero_le _, rfl, HP.out⟩
          case round =>
            clear HP
            obtain ⟨k, hk, rfl, hP⟩ := hrel
            have HP := Lib.hid hP
            by_cases hlt : k < n
            · have hd1 : decide ((k : Int) < (n : Int)) = true := by simp; omega
              obtain ⟨g6, cb, he, h6c⟩ := own_someG hP.l.m (by omega)
              simp only [Value.slice.injEq] at he
              obtain ⟨rfl, -, rfl⟩ := he
              obtain ⟨gb, cb, he, hbc⟩ := own_someG hP.l.b (by omega)
              simp only [Value.slice.injEq] at he
              obtain ⟨rfl, -, rfl⟩ := he
              obtain ⟨g5, cb, he, h5c⟩ := own_someG hP.l.o (by omega)
              simp only [Value.slice.injEq] at he
              obtain ⟨rfl, -, rfl⟩ := he
              have hc6 : wr.cell? ⟨g6, k, none⟩ = some (mores k) := (row_cell hP.l.m k hlt).trans (firstN_at mores n k hlt)
              obtain ⟨gm, cm, hmm, hmc⟩ := own_some1 (hP.g.more k hlt) (by omega)
              obtain ⟨go1, co, ho, hoc⟩ := own_some1 (hP.g.one k hlt) (by omega)
              obtain ⟨av, cv, hv⟩ := own_shape (hP.g.b.own k hlt)
              rw [hmm] at hc6
              have hln := HLEN.out k hlt
              have HMM := Lib.hid hmm
              have HOO := Lib.hid ho
              have HAV := Lib.hid hv
              have HLT := Lib.hid hlt
              obtain ⟨lk, hlk⟩ : ∃ lk, len k = lk := ⟨_, rfl⟩
              have HLK := Lib.hid hlk
              rw [hlk] at hc6 hln
              have HRD : Hid (∀ w' i, i < lk + 70 → PX w w' base bg n T (.slice (some ⟨gb, 0, none⟩) n bc) (.slice (some ⟨g5, 0, none⟩) n c5) (.slice (some ⟨g6, 0, none⟩) n c6) vs len ones mores → w'.cell? ⟨bg, 2, none⟩ = some (.slice (some ⟨gb, 0, none⟩) n bc) ∧ w'.cell? ⟨gb, k, none⟩ = some (.slice av lk cv) ∧ w'.cell? ⟨g6, k, none⟩ = some (.slice (some ⟨gm, 0, none⟩) (lk + 70) cm) ∧ w'.cell? ⟨gm, i, none⟩ = some (.bool (bo k i)) ∧ w'.cell? ⟨g5, k, none⟩ = some (.slice (some ⟨go1, 0, none⟩) (lk + 1) co)) := Lib.hid fun w' i hi hP => by
                have hom := hP.g.more k HLT.out
                rw [HMM.out, HLK.out] at hom
                refine ⟨((hP.f.at_ HBAG.out).cell 2).trans HF4.out, ?_, ?_, (World.ownsRow.cellAt hom i (by omega)).trans (mkBo_at k (lk + 70) i hi), ?_⟩
                · rw [← HLK.out, ← HAV.out]
                  exact (row_cell hP.l.b k HLT.out).trans (firstN_at vs n k HLT.out)
                · rw [← HLK.out, ← HMM.out]
                  exact (row_cell hP.l.m k HLT.out).trans (firstN_at mores n k HLT.out)
                · rw [← HLK.out, ← HOO.out]
                  exact (row_cell hP.l.o k HLT.out).trans (firstN_at ones n k HLT.out)
              clear hP hmm hlk hmc ho hv hoc
              go_wp2_with fail
              go_loopw [11] (fun v wr => ∃ i : Nat, i ≤ lk + 70 ∧ v = .int .i64 i ∧ PX w wr base bg n T (.slice (some ⟨gb, 0, none⟩) n bc) (.slice (some ⟨g5, 0, none⟩) n c5) (.slice (some ⟨g6, 0, none⟩) n c6) vs len ones mores) (fun v _ => lk + 70 - (intOf v).toNat)
              case atStart => exact ⟨0, Nat.zero_le _, rfl, HP.out⟩
              case round =>
                clear HP hc6
                obtain ⟨i, hi, rfl, hP⟩ := hrel
                have HP := Lib.hid hP
                have hc6 : wr.cell? ⟨g6, k, none⟩ = some (.slice (some ⟨gm, 0, none⟩) (lk + 70) cm) := by
                  rw [← HLK.out, ← HMM.out]
                  exact (row_cell hP.l.m k hlt).trans (firstN_at mores n k hlt)
                by_cases hil : i < lk + 70
                · have hd2 : decide ((i : Int) < (lk : Int) + 70) = true := by simp; omega
                  have HI := Lib.hid hil
                  have HTY : Hid (∀ wz, Below base w wz → Calls Tryd.prog 56 #[.int .i64 k, .int .i64 i] wz fun e w2 => e = .returned (.int .i64 (1048576 * (k : Int) + (i : Int) + 1)) ∧ Below wz.heap.size wz w2) := Lib.hid fun wz hb => num_bel wz k i (by omega) (by omega)
                  obtain ⟨r0, r1, -, r3, r4⟩ := HRD.out wr i hil hP
                  have HX : Hid (i < lk → ∃ gv, av = some ⟨gv, 0, none⟩ ∧ wr.cell? ⟨gv, i, none⟩ = some (.bool (bo k i))) := Lib.hid fun h1 => by
                    have hov := hP.g.b.own k hlt
                    rw [HAV.out, HLK.out] at hov
                    obtain ⟨gv, cb, he, hvc⟩ := own_some1 hov (by omega)
                    simp only [Value.slice.injEq] at he
                    obtain ⟨rfl, -, rfl⟩ := he
                    exact ⟨gv, rfl, (World.ownsRow.cellAt hov i (by omega)).trans (mkBo_at k lk i h1)⟩
                  have HY : Hid (i = lk → wr.cell? ⟨go1, i, none⟩ = some (.bool (bo k i))) := Lib.hid fun h1 => by
                    have hoo := hP.g.one k hlt
                    rw [HOO.out, HLK.out] at hoo
                    exact (World.ownsRow.cellAt hoo i (by omega)).trans (mkBo_at k (lk + 1) i (by omega))
                  have HBW : Hid (Below base w wr) := Lib.hid (hP.f.bel base w (Below.refl _ _) (Nat.le_refl _))
                  have HBS : Hid (base ≤ wr.heap.size) := Lib.hid (Nat.le_trans hbase hP.f.size)
                  have htt : bo k i = (bits BinOp.and IntKind.i64 ((1048576 * (k : Int) + (i : Int) + 1) / 2 ^ (20 + i % 8)) 1 == 1) := rfl
                  clear hP
                  have HRR := Lib.hid (HRD.out wr i hil HP.out)
                  by_cases h1 : i < lk
                  · have hd3 : decide ((i : Int) < (lk : Int)) = true := by simp; omega
                    have hd4 : ((i : Int) == (lk : Int)) = false := by simp; omega
                    obtain ⟨gv, rfl, y0⟩ := HX.out h1
                    go_wp2_with (go_at_call 56; refine (HTY.out wr HBW.out).mono ?_)
                    rintro e wy ⟨rfl, by1⟩
                    have HPY := Lib.hid (HP.out.below1 HBAG.out hbase by1)
                    have HBWY : Hid (Below base w wy) := Lib.hid (HBW.out.trans (by1.mono HBS.out))
                    have HBSY : Hid (base ≤ wy.heap.size) := Lib.hid (Nat.le_trans HBS.out by1.size)
                    clear r0 r1 r3 r4 hc6 by1
                    try clear y0
                    obtain ⟨r0, r1, r2, r3, r4⟩ := HRD.out wy i HI.out HPY.out
                    go_wp2_with (go_at_call 56; refine (HTY.out wy HBWY.out).mono ?_)
                    rintro e wz ⟨rfl, bz1⟩
                    have HPZ := Lib.hid (HPY.out.below1 HBAG.out hbase bz1)
                    clear r0 r1 r2 r3 r4 bz1
                    go_wp2_with fail
                    go_roundw
                    case rel => exact ⟨i + 1, by have := HI.out; omega, by go_num, HPZ.out⟩
                    case measure => simp [intOf]; omega
                  · have hd3 : decide ((i : Int) < (lk : Int)) = false := by simp; omega
                    by_cases h2 : i = lk
                    · have hd4 : ((i : Int) == (lk : Int)) = true := by simp; omega
                      have y0 := HY.out h2
                      have h2' : i ≤ lk := by omega
                      have h2i : (i : Int) < ((lk + 1 : Nat) : Int) := by omega
                      clear h2
                      go_wp2_with (go_at_call 56; refine (HTY.out wr HBW.out).mono ?_)
                      rintro e wy ⟨rfl, by1⟩
                      have HPY := Lib.hid (HP.out.below1 HBAG.out hbase by1)
                      have HBWY : Hid (Below base w wy) := Lib.hid (HBW.out.trans (by1.mono HBS.out))
                      have HBSY : Hid (base ≤ wy.heap.size) := Lib.hid (Nat.le_trans HBS.out by1.size)
                      clear r0 r1 r3 r4 hc6 by1
                      try clear y0
                      obtain ⟨r0, r1, r2, r3, r4⟩ := HRD.out wy i HI.out HPY.out
                      go_wp2_with (go_at_call 56; refine (HTY.out wy HBWY.out).mono ?_)
                      rintro e wz ⟨rfl, bz1⟩
                      have HPZ := Lib.hid (HPY.out.below1 HBAG.out hbase bz1)
                      clear r0 r1 r2 r3 r4 bz1
                      go_wp2_with fail
                      go_roundw
                      case rel => exact ⟨i + 1, by have := HI.out; omega, by go_num, HPZ.out⟩
                      case measure => simp [intOf]; omega
                    · have hd4 : ((i : Int) == (lk : Int)) = false := by simp; omega
                      go_wp2_with (go_at_call 56; refine (HTY.out wr HBW.out).mono ?_)
                      rintro e wy ⟨rfl, by1⟩
                      have HPY := Lib.hid (HP.out.below1 HBAG.out hbase by1)
                      have HBWY : Hid (Below base w wy) := Lib.hid (HBW.out.trans (by1.mono HBS.out))
                      have HBSY : Hid (base ≤ wy.heap.size) := Lib.hid (Nat.le_trans HBS.out by1.size)
                      clear r0 r1 r3 r4 hc6 by1
                      try clear y0
                      obtain ⟨r0, r1, r2, r3, r4⟩ := HRD.out wy i HI.out HPY.out
                      go_wp2_with (go_at_call 56; refine (HTY.out wy HBWY.out).mono ?_)
                      rintro e wz ⟨rfl, bz1⟩
                      have HPZ := Lib.hid (HPY.out.below1 HBAG.out hbase bz1)
                      clear r0 r1 r2 r3 r4 bz1
                      go_wp2_with fail
                      go_roundw
                      case rel => exact ⟨i + 1, by have := HI.out; omega, by go_num, HPZ.out⟩
                      case measure => simp [intOf]; omega
                · obtain rfl : i = lk + 70 := by omega
                  clear hP
                  go_wp2_with fail
                  go_roundw
                  case rel => exact ⟨k + 1, by have := HLT.out; omega, by go_num, HP.out⟩
                  case measure => simp [intOf]; omega
            · obtain rfl : k = n := by omega
              have HF := Lib.hid hP.f
              clear hP
              go_wp2_with fail
              go_ret
              exact ⟨rfl, HF.out⟩
end Go.Proofs.YtfmcjmkdlldlhaaDoor

namespace Go.Proofs.YtfmcjmkdlldlhaaDoor
open Go.RowKit

set_option maxRecDepth 100000 in
theorem addBools_any (w : World) (base bg n : Nat) (fs : List Value) (bv : Value) (us : List Value) (ua : Option Addr) (un uc : Nat) (hbag : BagAt w bg fs) (hd : fs[2]? = some bv) (hown : w.ownsRow base 71 1 bv n us) (hm : n < 400) (hb : base ≤ w.heap.size) :
    Calls Tryd.prog 16 #[.pointer (some ⟨bg, 0, none⟩), .slice ua un uc] w (AddedKPost 2 71 w base bg n fs bv us (.slice ua un uc)) := by
  obtain ⟨b, c, rfl⟩ := own_shape hown
  have hc : w.cell? ⟨bg, 2, none⟩ = some (.slice b n c) := (hbag.cell 2).trans hd
  have HB := Lib.hid hbag
  have HD := Lib.hid hd
  have HO := Lib.hid hown
  have hm' : decide ((n : Int) < 400) = true := by simp; omega
  clear hbag hd
  go_enter Tryd.func16, Tryd.ntmps16
  go_wp2_with (at_builtin; refine append_lg rfl (.tmp 14) (.tmp 16) 47 71 rfl Tryd.underlying47 infoLBo base _ n us _ rfl hown rfl rfl (by omega) hb ?_)
  intro v' w1 hov hold hp
  have hB1 := HB.out.keepT (KeepT.of_app hown hp neLOG)
  obtain ⟨b', c', rfl⟩ := own_shape hov
  have hc1 : w1.cell? ⟨bg, 2, none⟩ = some (.slice b n c) := (hB1.cell 2).trans HD.out
  have hf1 := hB1.frozen 2
  have HA : Hid (AddedK 2 71 w (w1.setCell ⟨bg, 2, none⟩ (.slice b' (n + 1) c')) base bg n fs (.slice b n c) (.slice b' (n + 1) c') us (.slice ua un uc)) := Lib.hid
    (AddedK.of_app HB.out neLOG hown hov hp)
  clear hov hold hp hB1 hc hown HB HD HO
  go_wp2_with fail
  go_end0
  exact ⟨rfl, _, HA.out⟩

set_option maxRecDepth 100000 in
set_option maxHeartbeats 1000000 in
theorem apart_bools (T : Nat → Prop) (w : World) (base bg m : Nat) (fs : List Value) (bv : Value) (vs : Nat → Value) (len : Nat → Nat) (C : Nat → List Value) (hbag : BagAt w bg fs) (hz : ∀ i, i < 19 → i ≠ 2 → fs[i]? = some (.slice none 0 0)) (hK : Kd w base 2 71 4 1 140737488355000 m fs bv vs len C) (hm : m ≤ 400)
    (hbase : base ≤ w.heap.size) (hT : ∀ k, T k → k < w.heap.size) (hTV : ∀ j, j < m → FarT T (vs j)) :
    Calls Tryd.prog 22 #[.pointer (some ⟨bg, 0, none⟩)] w fun e w' => e = .returned (.bool true) ∧ FrT w w' base bg T := by
  have HA := Lib.hid (apartBools_T T w base bg m bv fs vs len C hbag hK.hd hK.own hm hK.b hK.lim hbase hT hTV)
  have HBAG := Lib.hid hbag
  have HN0 : ∀ i : Nat, i < 19 → i ≠ 2 → w.cell? ⟨bg, i, none⟩ = some (.slice none 0 0) := fun i hi hne => (hbag.cell i).trans (hz i hi hne)
  have HN0 := Lib.hid HN0
  have HZ := Lib.hid hz
  clear hbag hK hz
  go_enter Tryd.func22, Tryd.ntmps22
  go_wp2_with fail
  refine (apartBytes_nil w bg (HN0.out 0 (by omega) (by omega))).mono ?_
  rintro e w' ⟨rfl, rfl⟩
  go_wp2_with fail
  refine (apartInts_nil w bg (HN0.out 1 (by omega) (by omega))).mono ?_
  rintro e w' ⟨rfl, rfl⟩
  go_wp2_with fail
  refine HA.out.mono ?_
  rintro e w1 ⟨rfl, hF⟩
  have HF := Lib.hid hF
  have HN : ∀ i : Nat, i < 19 → i ≠ 2 → w1.cell? ⟨bg, i, none⟩ = some (.slice none 0 0) := fun i hi hne => ((hF.at_ HBAG.out).cell i).trans (HZ.out i hi hne)
  have HN := Lib.hid HN
  clear hF HA HN0
  go_wp2_with fail
  refine (apartTexts_nil w1 bg (HN.out 3 (by omega) (by omega))).mono ?_
  rintro e w' ⟨rfl, rfl⟩
  go_wp2_with fail
  refine (apartMarks_nil w1 bg (HN.out 4 (by omega) (by omega))).mono ?_
  rintro e w' ⟨rfl, rfl⟩
  go_wp2_with fail
  refine (apartSpans_nil w1 bg (HN.out 5 (by omega) (by omega))).mono ?_
  rintro e w' ⟨rfl, rfl⟩
  go_wp2_with fail
  refine (apartRuns_nil w1 bg (HN.out 6 (by omega) (by omega))).mono ?_
  rintro e w' ⟨rfl, rfl⟩
  go_wp2_with fail
  refine (apartClasses_nil w1 bg (HN.out 7 (by omega) (by omega))).mono ?_
  rintro e w' ⟨rfl, rfl⟩
  go_wp2_with fail
  refine (apartNodes_nil w1 bg (HN.out 8 (by omega) (by omega))).mono ?_
  rintro e w' ⟨rfl, rfl⟩
  go_wp2_with fail
  refine (apartInstrs_nil w1 bg (HN.out 9 (by omega) (by omega))).mono ?_
  rintro e w' ⟨rfl, rfl⟩
  go_wp2_with fail
  refine (apartFaults_nil w1 bg (HN.out 10 (by omega) (by omega))).mono ?_
  rintro e w' ⟨rfl, rfl⟩
  go_wp2_with fail
  refine (apartNotes_nil w1 bg (HN.out 11 (by omega) (by omega))).mono ?_
  rintro e w' ⟨rfl, rfl⟩
  go_wp2_with fail
  refine (apartParts_nil w1 bg (HN.out 12 (by omega) (by omega))).mono ?_
  rintro e w' ⟨rfl, rfl⟩
  go_wp2_with fail
  refine (apartRows_nil w1 bg (HN.out 13 (by omega) (by omega))).mono ?_
  rintro e w' ⟨rfl, rfl⟩
  go_wp2_with fail
  refine (apartIntss_nil w1 bg (HN.out 14 (by omega) (by omega))).mono ?_
  rintro e w' ⟨rfl, rfl⟩
  go_wp2_with fail
  refine (apartSpanss_nil w1 bg (HN.out 15 (by omega) (by omega))).mono ?_
  rintro e w' ⟨rfl, rfl⟩
  go_wp2_with fail
  refine (apartPieces_nil w1 bg (HN.out 16 (by omega) (by omega))).mono ?_
  rintro e w' ⟨rfl, rfl⟩
  go_wp2_with fail
  refine (apartFiles_nil w1 bg (HN.out 17 (by omega) (by omega))).mono ?_
  rintro e w' ⟨rfl, rfl⟩
  go_wp2_with fail
  refine (apartCmds_nil w1 bg (HN.out 18 (by omega) (by omega))).mono ?_
  rintro e w' ⟨rfl, rfl⟩
  go_wp2_with fail
  go_ret
  exact ⟨rfl, HF.out⟩
end Go.Proofs.YtfmcjmkdlldlhaaDoor

namespace Go.Proofs.YtfmcjmkdlldlhaaDoor
open Go.RowKit

abbrev bagZero : Obj := .cells #[.slice none 0 0, .slice none 0 0, .slice none 0 0, .slice none 0 0, .slice none 0 0, .slice none 0 0, .slice none 0 0, .slice none 0 0, .slice none 0 0, .slice none 0 0, .slice none 0 0, .slice none 0 0, .slice none 0 0, .slice none 0 0, .slice none 0 0, .slice none 0 0, .slice none 0 0, .slice none 0 0, .slice none 0 0] 65
/-- m lists lie in the bag; those of pd wait for it. -/
structure GP (W w : World) (bg m : Nat) (bv : Value) (vs : Nat → Value) (len : Nat → Nat) (C : Nat → List Value) (pd : List (Value × List Int)) : Prop where
  gi : GI w W.heap.size bg m bv vs len C
  bel : Below W.heap.size W w
  own : ∀ x ∈ pd, OwnB w W.heap.size x.1 x.2 ∧ x.2.length ≤ 140737488351232
  far : ∀ x ∈ pd, ∀ k, x.1.ownBlock = some k → ¬ GF bg m bv vs k
  ap : pd.Pairwise fun x y => Apart x.1 y.1
section
variable {W w w' : World} {bg m : Nat} {bv : Value} {vs : Nat → Value} {len : Nat → Nat} {C : Nat → List Value} {pd : List (Value × List Int)}
theorem GP.below (t : GP W w bg m bv vs len C pd) (hb : Below w.heap.size w w') : GP W w' bg m bv vs len C pd :=
  { t with gi := t.gi.below hb, bel := t.bel.trans (hb.mono t.bel.size), own := fun x hx => ⟨(t.own x hx).1.below hb, (t.own x hx).2⟩ }
theorem GP.start {w : World} (hB : Below W.heap.size W w) (own : ∀ x ∈ pd, OwnB w W.heap.size x.1 x.2 ∧ x.2.length ≤ 140737488351232) (ap : pd.Pairwise fun x y => Apart x.1 y.1) :
    GP W (w.alloc bagZero) w.heap.size 0 (.slice none 0 0) (fun _ => undef) (fun _ => 0) (fun _ => []) pd := by
  have hb := (Below.refl w.heap.size w).alloc (Nat.le_refl _) bagZero
  have g : GI (w.alloc bagZero) W.heap.size w.heap.size 0 (.slice none 0 0) (fun _ => undef) (fun _ => 0) (fun _ => []) := GI.new w W.heap.size hB.size _ _ _
  refine ⟨g, hB.trans (hb.mono hB.size), fun x hx => ⟨(own x hx).1.below hb, (own x hx).2⟩, fun x hx k hk e => ?_, ap⟩
  have := (World.ownsRow.lt (own x hx).1 k hk).2
  rcases e with e | e | ⟨j, hj, -⟩
  · omega
  · simp [Value.ownBlock] at e
  · omega
theorem GP.twin (t : GP W w bg m bv vs len C pd) {v : Value} {l : List Int} (ho : OwnB w' w.heap.size v l) (hb : Below w.heap.size w w') (hl : l.length ≤ 140737488351232) : GP W w' bg m bv vs len C (pd ++ [(v, l)]) := by
  have tb := t.below hb
  have hv : ∀ k, v.ownBlock = some k → w.heap.size ≤ k := ho.from (Nat.le_refl _)
  refine { tb with own := fun x hx => ?_, far := fun x hx k hk => ?_, ap := ?_ }
  · rcases List.mem_append.1 hx with e | e
    · exact tb.own x e
    · obtain rfl := List.mem_singleton.1 e
      exact ⟨ho.mono t.bel.size, hl⟩
  · rcases List.mem_append.1 hx with e | e
    · exact tb.far x e k hk
    · obtain rfl := List.mem_singleton.1 e
      have := hv k hk
      exact fun e => by have := t.gi.lt k e; omega
  · refine List.pairwise_append.2 ⟨t.ap, List.pairwise_singleton _ _, fun x hx y hy => ?_⟩
    obtain rfl := List.mem_singleton.1 hy
    intro k h1 h2
    have h3 := (World.ownsRow.lt (t.own x hx).1 k h1).2
    have h4 := hv k h2
    omega
theorem GP.add {v : Value} {l : List Int} (t : GP W w bg m bv vs len C ((v, l) :: pd)) {e : Ending} (hP : AddGPost w W.heap.size bg m bv vs len C v l e w') :
    e = .returned undef ∧ ∃ bv' vs' len' C', GP W w' bg (m + 1) bv' vs' len' C' pd := by
  obtain ⟨he, bv', g, hk, hn, hbel, hsz⟩ := hP
  refine ⟨he, bv', _, _, _, g, hbel _ _ t.bel (Nat.le_refl _), fun x hx => ⟨?_, (t.own x (List.mem_cons_of_mem _ hx)).2⟩, fun x hx k e e2 => ?_, (List.pairwise_cons.1 t.ap).2⟩
  · have ho := (t.own x (List.mem_cons_of_mem _ hx)).1
    exact own_blk ho fun k e => hk k (World.ownsRow.lt ho k e).2 (t.far x (List.mem_cons_of_mem _ hx) k e)
  · rcases hn k e2 with e3 | e3 | e3
    · exact t.far x (List.mem_cons_of_mem _ hx) k e e3
    · exact (List.pairwise_cons.1 t.ap).1 x hx k e3 e
    · have := (World.ownsRow.lt (t.own x (List.mem_cons_of_mem _ hx)).1 k e).2; omega
theorem GP.apart (t : GP W w bg m bv vs len C pd) (hm : m ≤ 400) :
    Calls Tryd.prog 22 #[.pointer (some ⟨bg, 0, none⟩)] w fun e w' => e = .returned (.bool true) ∧ Below W.heap.size W w' :=
  (apartG (fun _ => False) t.gi t.bel.size hm (fun _ h => h.elim) (fun _ _ h => h)).mono fun _ _ ⟨e, f⟩ => ⟨e, f.bel _ _ t.bel (Nat.le_refl _)⟩
end
end Go.Proofs.YtfmcjmkdlldlhaaDoor

namespace Go.Proofs.YtfmcjmkdlldlhaaDoor
open Go.RowKit

structure GO (W w : World) (bg m : Nat) (fs : List Value) (bv : Value) (vs : Nat → Value) (len : Nat → Nat) (C : Nat → List Value) : Prop where
  bag : BagAt w bg fs
  flen : fs.length = 19
  z : ∀ i, i < 19 → i ≠ 2 → fs[i]? = some (.slice none 0 0)
  kd : Kd w W.heap.size 2 71 4 1 140737488355000 m fs bv vs len C
  lo : W.heap.size ≤ bg
  bel : Below W.heap.size W w
section
variable {W w w' : World} {bg m : Nat} {fs : List Value} {bv : Value} {vs : Nat → Value} {len : Nat → Nat} {C : Nat → List Value} {l : List Bool}
theorem GO.start (hB : Below W.heap.size W w) : GO W (w.alloc bagZero) w.heap.size 0 heads0 (.slice none 0 0) (fun _ => undef) (fun _ => 0) (fun _ => []) :=
  ⟨BagAt.new0 w, heads0_len, fun i hi _ => heads0_at i hi, Kd.none _ _ _ _ _ _ _ _ (heads0_at 2 (by omega)) _ _ _, hB.size, hB.alloc hB.size _⟩
theorem GO.add (h : GO W w bg m fs bv vs len C) (hm : m < 400) {ua : Option Addr} {un uc : Nat} (hv : w.ownsRow W.heap.size 4 1 (.slice ua un uc) l.length (l.map Value.bool)) (hn : l.length ≤ 140737488355000) (hap : ∀ j, j < m → Apart (vs j) (.slice ua un uc)) :
    Calls Tryd.prog 16 #[.pointer (some ⟨bg, 0, none⟩), .slice ua un uc] w fun e w' => e = .returned undef ∧ KeepT 4 w w' ∧ ∃ fs' bv', GO W w' bg (m + 1) fs' bv' (snoc vs m (.slice ua un uc)) (snoc len m l.length) (snoc C m (l.map Value.bool)) := by
  refine (addBools_any w W.heap.size bg m fs bv (firstN vs m) ua un uc h.bag h.kd.hd h.kd.own hm h.bel.size).mono ?_
  rintro e w' ⟨rfl, bv', hA⟩
  refine ⟨rfl, hA.keep _ neOL neOG, _, bv', hA.bag, by rw [List.length_set, h.flen], fun i hi hne => ?_, h.kd.add hA (by rw [h.flen]; omega) neOL neOG hv hn hap, h.lo, hA.bel _ _ h.bel (Nat.le_refl _) h.lo⟩
  rw [List.getElem?_set_ne (fun e => hne e.symm)]
  exact h.z i hi hne
theorem GO.apart (h : GO W w bg m fs bv vs len C) (hm : m ≤ 400) :
    Calls Tryd.prog 22 #[.pointer (some ⟨bg, 0, none⟩)] w fun e w' => e = .returned (.bool true) ∧ Below W.heap.size W w' :=
  (apart_bools (fun _ => False) w W.heap.size bg m fs bv vs len C h.bag h.z h.kd hm h.bel.size (fun _ h => h.elim) (fun _ _ _ h => h.elim)).mono fun _ _ ⟨e, f⟩ => ⟨e, f.bel _ _ h.bel (Nat.le_refl _)⟩
/-- The blocks of a bag and of what is in it. -/
def GOB (bg m : Nat) (bv : Value) (vs : Nat → Value) (k : Nat) : Prop := k = bg ∨ bv.ownBlock = some k ∨ ∃ j, j < m ∧ (vs j).ownBlock = some k
theorem GO.lt (h : GO W w bg m fs bv vs len C) {k : Nat} (hk : GOB bg m bv vs k) : k < w.heap.size ∧ W.heap.size ≤ k := by
  rcases hk with rfl | hk | ⟨j, hj, hk⟩
  · exact ⟨h.bag.lt, h.lo⟩
  · exact (World.ownsRow.lt h.kd.own k hk).symm
  · exact (World.ownsRow.lt (h.kd.b.own j hj) k hk).symm
theorem GO.keep (h : GO W w bg m fs bv vs len C) (hk : ∀ k, GOB bg m bv vs k → w'.heap[k]? = w.heap[k]?) (hb : Below W.heap.size W w') : GO W w' bg m fs bv vs len C :=
  { h with
    bag := (hk bg (.inl rfl)).trans h.bag
    kd := ⟨h.kd.hd, own_blk h.kd.own fun k e => hk k (.inr (.inl e)), { h.kd.b with own := fun j hj => own_blk (h.kd.b.own j hj) fun k e => hk k (.inr (.inr ⟨j, hj, e⟩)) }, h.kd.lim⟩
    bel := hb }
end
end Go.Proofs.YtfmcjmkdlldlhaaDoor
