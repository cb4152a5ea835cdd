/-
  class.All: an iterator over the bytes of a class.
-/
import Derived.RangeFuncBox
import Derived.RangeFuncNested
import Derived.RangeFuncBound
import Derived.RangeFuncCalls
import Derived.RangeFuncLeaves
import Derived.Shelf.Abstract
import Derived.Shelf.RegionOpen
import Derived.OwnWalkIn
import Derived.TacticsInMore
import Derived.LoopNIn
import Derived.LoopIn
import Derived.Test.YthegepiafodpjaaDoorCops
namespace Go.Proofs.YthegepiafodpjaaDoor
open Go.RowKit Go.Shelf

attribute [local go_sem] Oper.semAt_some

/-- A byte. -/
abbrev Byt := { x : Nat // x < 256 }
/-- The bytes of a class that are below k, rising. -/
def elemsU (c : List Nat) (k : Nat) : List Byt := (List.range k).filterMap fun x => if h : x < 256 then (if hasL c x = true then some ⟨x, h⟩ else none) else none
def elemsL (c : List Nat) : List Byt := elemsU c 256
theorem elemsU_yes (c : List Nat) (k : Nat) (hk : k < 256) (h : hasL c k = true) : elemsU c (k + 1) = elemsU c k ++ [⟨k, hk⟩] := by
  unfold elemsU
  rw [List.range_succ, List.filterMap_append]
  simp [hk, h]
theorem elemsU_no (c : List Nat) (k : Nat) (h : hasL c k = false) : elemsU c (k + 1) = elemsU c k := by
  unfold elemsU
  rw [List.range_succ, List.filterMap_append]
  simp [h]
theorem elemsU_len (c : List Nat) (k : Nat) : (elemsU c k).length ≤ k := by
  unfold elemsU
  refine Nat.le_trans (List.length_filterMap_le _ _) (by simp)
theorem elemsU_pre (c : List Nat) (k : Nat) (hk : k ≤ 256) : elemsU c k <+: elemsL c := by
  obtain ⟨j, hj⟩ : ∃ j, 256 = k + j := ⟨256 - k, by omega⟩
  unfold elemsL
  rw [hj]
  clear hj
  induction j with
  | zero => exact List.prefix_refl _
  | succ j ih =>
    refine ih.trans ?_
    rw [← Nat.add_assoc]
    cases h : hasL c (k + j)
    · rw [elemsU_no c _ h]; exact List.prefix_refl _
    · by_cases hk2 : k + j < 256
      · rw [elemsU_yes c _ hk2 h]; exact List.prefix_append _ _
      · unfold elemsU; rw [List.range_succ, List.filterMap_append]; simp [hk2]

/-- Block b stays. -/
def KeepB (b : Nat) (W W' : World) : Prop := W'.heap[b]? = W.heap[b]?
theorem keepB_t (b : Nat) {A B C : World} (h : KeepB b A B) (k : KeepB b B C) : KeepB b A C := k.trans h
theorem keepB_b {b : Nat} {w : World} (hb : b < w.heap.size) (W : World) (l : Nat) (o o' : Obj) (hl : w.heap.size ≤ l) (_ : W.heap[l]? = some o) (_ : o.isCells = false) (_ : o.isWalk = false) : KeepB b W (W.putObj l o') := World.putObj_heap_other (by omega)
theorem KeepB.arr {b : Nat} {W W' : World} {T : TypeId} {c : List Nat} (h : KeepB b W W') (a : Arr64 W b T c) : Arr64 W' b T c := h.trans a
theorem grown_of_below {W W' : World} (h : Below W.heap.size W W') : W.grownBy W' none := ⟨h.os, h.tape, h.output, h.size, fun k hk _ => h.block k hk⟩

theorem all_any (w : World) (c : List Nat) :
    Calls Tryd.prog 65 #[.agg (row64 c)] w fun e w' => e = .returned (.func (.func 76) #[] #[.pointer (some ⟨w.heap.size, 0, none⟩)]) ∧ w' = w.alloc (.cells (row64 c) 28) := by
  go_enter Tryd.func65, Tryd.ntmps65
  go_wp2
  go_ret
  exact ⟨rfl, rfl⟩

set_option maxHeartbeats 400000 in
theorem has_exact (w : World) (c : List Nat) (hc : IsC c) (x : Nat) (hx : x < 256) :
    Calls Tryd.prog 35 #[.agg (row64 c), .int .u8 (x : Int)] w fun e w' => e = .returned (.bool (hasL c x)) ∧ Below w.heap.size w w' ∧ w.drawn ≤ w'.drawn := by
  have hg := row64_get c (x / 64) (by rw [hc.1]; omega)
  have hs := row64_size c
  rw [hc.1] at hs
  go_enter Tryd.func35, Tryd.ntmps35
  go_wp2
  go_ret
  rw [bit_is _ _ (hc.2 _)]
  exact ⟨rfl, (Below.refl _ w).alloc (Nat.le_refl _) _, Nat.le_refl _⟩

set_option maxRecDepth 100000 in
set_option maxHeartbeats 1000000 in
theorem all1_in (n : Nat) (hn : 1 ≤ n) (l Bn : Nat) (c : List Nat) (hc : IsC c) (J Jx : List Byt → World → Prop) (hJ : ∀ s W W', J s W → Below W.heap.size W W' → W.drawn ≤ W'.drawn → J s W')
    (hY : ∀ pre x W, J pre W → pre.length < 256 → YieldAt Fence.wide (n - 1) Tryd.prog l #[.int .u8 ((x : Byt).1 : Int)] W fun e W' =>
      (e = .returned (.bool true) ∧ J (pre ++ [x]) W' ∧ KeepB Bn W W') ∨ (e = .returned (.bool false) ∧ Jx (pre ++ [x]) W'))
    (W : World) (hA : Arr64 W Bn 28 c) (h0 : J [] W) :
    CallsIn Fence.wide n Tryd.prog 76 #[.func (.yield l) #[] #[], .pointer (some ⟨Bn, 0, none⟩)] W fun e W' => (∃ v, e = .returned v) ∧
      ((∃ ys, ys = elemsL c ∧ J ys W') ∨ (∃ pre, pre <+: elemsL c ∧ Jx pre W')) := by
  have hs := row64_size c
  rw [hc.1] at hs
  refine callsIn_of_wp Tryd.func76 rfl trivial ?_ rfl
  simp only [Tryd.ntmps76, List.size_toArray, List.length_cons, List.length_nil, Nat.reduceAdd, Nat.reduceSub, Array.replicate_succ, Array.replicate_zero, List.push_toArray, List.append_toArray, List.nil_append, List.cons_append]
  gi_wp2
  gi_loopw [3] (fun i wr => ∃ k : Nat, k ≤ 256 ∧ i = .int .i64 k ∧ Arr64 wr Bn 28 c ∧ J (elemsU c k) wr) (fun i _ => 256 - (intOf i).toNat)
  case atStart => exact ⟨0, by omega, rfl, hA, h0⟩
  case round =>
    obtain ⟨k, hk, rfl, ha, hj⟩ := hrel
    by_cases hlt : k < 256
    · have hH := (callsIn_wide (n := n - 1)).2 (has_exact wr c hc k hlt)
      obtain ⟨p0, p1, p2, p3, rfl⟩ := isC_words c hc
      obtain ⟨c0, c1, c2, c3⟩ := ha.four rfl
      have hA2 := fun (W2 : World) (hb : Below wr.heap.size wr W2) => Arr64.below ha hb ha.lt
      cases hx : hasL [p0, p1, p2, p3] k
      · rw [hx] at hH
        have hno := Lib.hid (elemsU_no _ _ hx)
        have HA2 := Lib.hid hA2
        clear hx hA2
        gi_wp2_with fail
        refine ⟨trivial, hH.mono ?_⟩
        rintro e w2 ⟨rfl, hb2, hd2⟩
        have hj2 := hJ _ _ _ hj hb2 hd2
        clear hd2
        have ha2 := HA2.out w2 hb2
        clear hb2 hH hj c0 c1 c2 c3 ha
        gi_wp2_with fail
        refine ⟨fun _ h => (by cases h), ?_⟩
        gi_wp2_with fail
        go_roundw
        case rel => exact ⟨k + 1, by omega, by go_num, ha2, by rw [hno.out]; exact hj2⟩
        case measure => simp [intOf]; omega
      · rw [hx] at hH
        have hyes := Lib.hid (elemsU_yes _ _ hlt hx)
        have hpre := Lib.hid (elemsU_pre [p0, p1, p2, p3] (k + 1) (by omega))
        rw [hyes.out] at hpre
        have hlen := elemsU_len [p0, p1, p2, p3] k
        have HA2 := Lib.hid hA2
        clear hx hA2
        gi_wp2_with fail
        refine ⟨trivial, hH.mono ?_⟩
        rintro e w2 ⟨rfl, hb2, hd2⟩
        have hj2 := hJ _ _ _ hj hb2 hd2
        clear hd2
        have ha2 := HA2.out w2 hb2
        clear hb2 hH hj c0 c1 c2 c3 ha HA2
        obtain ⟨fn, tmps, assign, body, hy, hR⟩ := hY _ ⟨k, hlt⟩ w2 hj2 (by omega)
        gi_wp2_with fail
        refine hR.mono ?_
        rintro e w3 (⟨rfl, hj3, hk3⟩ | ⟨rfl, hj3⟩)
        · have ha3 := KeepB.arr hk3 ha2
          clear hy hR hk3 ha2 hj2
          gi_wp2_with fail
          go_roundw
          case rel => exact ⟨k + 1, by omega, by go_num, ha3, by rw [hyes.out]; exact hj3⟩
          case measure => simp [intOf]; omega
        · clear hy hR ha2 hj2
          gi_wp2_with fail
          refine bodyPost_ret (results_none rfl _ _ _) rfl ?_
          exact ⟨⟨_, rfl⟩, .inr ⟨_, hpre.out, hj3⟩⟩
    · obtain rfl : k = 256 := by omega
      gi_wp2_with fail
      go_end0
      exact ⟨⟨_, rfl⟩, .inl ⟨_, rfl, hj⟩⟩

theorem all_stops (n : Nat) (hn : 1 ≤ n) (Bn : Nat) (c : List Nat) (hc : IsC c) (w : World) (hA : Arr64 w Bn 28 c) :
    SeqStopsK Fence.wide n Tryd.prog 76 #[.pointer (some ⟨Bn, 0, none⟩)] (fun x : Byt => #[Value.int .u8 (x.1 : Int)]) (KeepB Bn) (fun ys => ys = elemsL c) (fun pre => pre <+: elemsL c) 256 w := fun l J Jx W hW hJ _ hY h0 =>
  all1_in n hn l Bn c hc J Jx (fun s A B hs hb _ => hJ s A B none hs (grown_of_below hb) (fun r e => by cases e)) hY W (hA.below hW hA.lt) h0
end Go.Proofs.YthegepiafodpjaaDoor
