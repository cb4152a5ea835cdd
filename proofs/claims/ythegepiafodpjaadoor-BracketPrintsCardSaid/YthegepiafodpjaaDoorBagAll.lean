/-
  Several texts in one: BagM, BagNil, BagB, BagW, BagA, Bag4, Up, BagI, Bag2, BagK, BagMk, BagMkA, BagP, BagMkG.
-/
import Derived.Test.YthegepiafodpjaaDoorApp
import Derived.Test.YthegepiafodpjaaDoorBase
import Derived.Lib.Hide
import Derived.Laws.OwnMore
import Derived.Deep.DeepCutAuto
import Derived.Test.YthegepiafodpjaaDoorBytes
import Derived.Test.YthegepiafodpjaaDoorOwnM

namespace Go.Proofs.YthegepiafodpjaaDoor
open Go.RowKit

theorem apart_types {w : World} {b1 b2 s1 s2 n1 n2 : Nat} {e1 e2 : TypeId} {u v : Value} {xs ys : List Value} (h1 : w.ownsRow b1 e1 s1 u n1 xs) (h2 : w.ownsRow b2 e2 s2 v n2 ys) (hne : e1 ≠ e2) : Apart u v := by
  intro k hu hv
  rcases h1.2 with ⟨rfl, _⟩ | ⟨g, cap, cur, rfl, _, hg, _⟩
  · simp [Value.ownBlock] at hu
  · rcases h2.2 with ⟨rfl, _⟩ | ⟨g', cap', cur', rfl, _, hg', _⟩
    · simp [Value.ownBlock] at hv
    · simp only [Value.ownBlock, Option.some.injEq] at hu hv
      rw [hu] at hg
      rw [hv, hg] at hg'
      simp only [Option.some.injEq, Obj.cells.injEq] at hg'
      exact hne hg'.2.1
theorem own_unique {w : World} {b1 b2 s n : Nat} {e : TypeId} {v : Value} {xs ys : List Value} (h1 : w.ownsRow b1 e s v n xs) (h2 : w.ownsRow b2 e s v n ys) : xs = ys := by
  rcases h1.2 with ⟨rfl, h0⟩ | ⟨g, cap, cur, rfl, _, hg, _, _, _, ht⟩
  · subst h0
    have e1 := h1.1
    have e2 := h2.1
    rw [List.eq_nil_of_length_eq_zero (by omega : xs.length = 0), List.eq_nil_of_length_eq_zero (by omega : ys.length = 0)]
  · rcases h2.2 with ⟨h, _⟩ | ⟨g', cap', cur', h, _, hg', _, _, _, ht'⟩
    · simp at h
    · simp only [Value.slice.injEq, Option.some.injEq, Addr.mk.injEq, and_true, true_and] at h
      obtain ⟨rfl, rfl⟩ := h
      rw [hg] at hg'
      simp only [Option.some.injEq, Obj.cells.injEq, and_true] at hg'
      rw [← ht, ← ht', hg']
theorem own_len {w : World} {b s n n1 : Nat} {e : TypeId} {a : Option Addr} {cap : Nat} {xs : List Value} (h : w.ownsRow b e s (.slice a n1 cap) n xs) : n1 = n := by
  rcases h.2 with ⟨h1, h0⟩ | ⟨g, cap', cur, h1, _⟩
  · simp only [Value.slice.injEq] at h1; omega
  · simp only [Value.slice.injEq] at h1; exact h1.2.1
theorem own_pre {w : World} {base size n n0 cap : Nat} {e : TypeId} {a : Option Addr} {xs : List Value} (h : w.ownsRow base e size (.slice a n cap) n xs) (hn : n0 ≤ n) : w.ownsRow base e size (.slice a n0 cap) n0 (xs.take (n0 * size)) := by
  have hle : n0 * size ≤ n * size := Nat.mul_le_mul_right _ hn
  refine ⟨by rw [List.length_take, h.1]; omega, ?_⟩
  rcases h.2 with ⟨h1, h2⟩ | ⟨g, cap', cur, h1, h2, h3, h4, h5, h6, h7⟩
  · simp only [Value.slice.injEq] at h1
    obtain ⟨rfl, _, rfl⟩ := h1
    exact .inl ⟨by rw [show n0 = 0 by omega], by omega⟩
  · simp only [Value.slice.injEq] at h1
    obtain ⟨rfl, _, rfl⟩ := h1
    exact .inr ⟨g, cap, cur, rfl, h2, h3, by omega, h5, h6, by rw [← h7, List.take_take, Nat.min_eq_left hle]⟩

/-- Blocks of cells of type e stay. -/
def KeepT (e : TypeId) (w w' : World) : Prop := ∀ (k : Nat) (cur : Array Value), w.heap[k]? = some (Obj.cells cur e (0, 0)) → w'.heap[k]? = w.heap[k]?
theorem KeepT.own {e : TypeId} {w w' : World} (hk : KeepT e w w') {base size n : Nat} {v : Value} {xs : List Value} (h : w.ownsRow base e size v n xs) : w'.ownsRow base e size v n xs :=
  ⟨h.1, h.2.imp_right fun ⟨g, cap, cur, ev, hb, hg, r⟩ => ⟨g, cap, cur, ev, hb, (hk g cur hg).trans hg, r⟩⟩
theorem KeepT.of_below {e : TypeId} {w w' : World} (hb : Below w.heap.size w w') : KeepT e w w' := fun k _ hk => hb.block k (Array.getElem?_eq_some_iff.1 hk).1
theorem KeepT.refl (e : TypeId) (w : World) : KeepT e w w := fun _ _ _ => rfl
theorem KeepT.trans {e : TypeId} {w w1 w2 : World} (h : KeepT e w w1) (h2 : KeepT e w1 w2) : KeepT e w w2 := fun k cur hk => (h2 k cur ((h k cur hk).trans hk)).trans (h k cur hk)
theorem KeepT.of_app {e e2 : TypeId} {w w' : World} {b b2 s n : Nat} {v v' : Value} {xs : List Value} (hv : w.ownsRow b e2 s v n xs) (hp : AppPost w w' b2 v v') (hne : e2 ≠ e) : KeepT e w w' := fun k cur hk =>
  hp.block k (Array.getElem?_eq_some_iff.1 hk).1 fun h => by
    rcases hv.2 with ⟨rfl, _⟩ | ⟨g, cap, cur', rfl, _, hg, _⟩
    · simp [Value.ownBlock] at h
    · simp only [Value.ownBlock, Option.some.injEq] at h
      subst h
      rw [hg] at hk
      simp only [Option.some.injEq, Obj.cells.injEq] at hk
      exact hne hk.2.1

/-- u is v's beginning, n0 elements, or apart from it. -/
def SubOf (u v : Value) (n0 : Nat) : Prop := Apart v u ∨ ∃ a n cap, v = .slice a n cap ∧ u = .slice a n0 cap ∧ n0 ≤ n
theorem SubOf.of_own {w : World} {base size n : Nat} {e : TypeId} {v : Value} {xs : List Value} (h : w.ownsRow base e size v n xs) : SubOf v v n := by
  obtain ⟨b, c, rfl⟩ := own_shape h
  exact .inr ⟨b, n, c, rfl, rfl, Nat.le_refl _⟩
theorem sub_step {w w' : World} {base size n m n0 : Nat} {e : TypeId} {u v v' : Value} {xs news ys : List Value} (hsz : 0 < size) (hm : 0 < m) (hv : w.ownsRow base e size v n xs) (hv' : w'.ownsRow base e size v' (n + m) (xs ++ news)) (hold : w'.ownsRow base e size v n xs)
    (hp : AppPost w w' base v v') (hu : w.ownsRow base e size u n0 ys) (hs : SubOf u v n0) : w'.ownsRow base e size u n0 ys ∧ SubOf u v' n0 := by
  rcases hs with hs | ⟨a, n1, cap, rfl, rfl, hle⟩
  · have := hp.other base e size ys u n0 hu hs
    exact ⟨this.1, .inl this.2⟩
  · obtain rfl := own_len hv
    have h1 := own_pre hold hle
    rw [own_unique (own_pre hv hle) hu] at h1
    refine ⟨h1, ?_⟩
    rcases hv'.2 with ⟨_, h0⟩ | ⟨g, cap', cur, rfl, _, hg, _, _, hcs, _⟩
    · omega
    · rcases hp.new g rfl with hn | hn
      · cases a with
        | none => simp [Value.ownBlock] at hn
        | some ad =>
          rcases hold.2 with ⟨h0, _⟩ | ⟨g2, cap2, cur2, he, _, hg2, _, _, hs2, _⟩
          · simp at h0
          · simp only [Value.slice.injEq, Option.some.injEq] at he
            obtain ⟨rfl, _, rfl⟩ := he
            simp only [Value.ownBlock, Option.some.injEq] at hn
            subst hn
            rw [hg2] at hg
            simp only [Option.some.injEq, Obj.cells.injEq, and_true] at hg
            rw [hg, hcs] at hs2
            obtain rfl := Nat.eq_of_mul_eq_mul_right hsz hs2
            exact .inr ⟨_, _, _, rfl, rfl, by omega⟩
      · refine .inl fun k h1 h2 => ?_
        have := (World.ownsRow.lt hu k h2).2
        simp only [Value.ownBlock, Option.some.injEq] at h1
        omega

/-! ### Marks -/
section
variable (mk : Nat → Nat → List Value)
/-- The cells of the first q marks of list k. -/
def marks (k q : Nat) : List Value := (List.range q).flatMap (mk k)
theorem marks_zero (k : Nat) : marks mk k 0 = [] := rfl
theorem marks_succ (k q : Nat) : marks mk k (q + 1) = marks mk k q ++ mk k q := by
  unfold marks
  rw [List.range_succ, List.flatMap_append]
  simp
theorem marks_len {size : Nat} (h : ∀ k i, (mk k i).length = size) (k q : Nat) : (marks mk k q).length = q * size := by
  induction q with
  | zero => simp [marks]
  | succ q ih => rw [marks_succ, List.length_append, ih, h, Nat.succ_mul]
theorem marks_at {size : Nat} (h : ∀ k i, (mk k i).length = size) (k q i j : Nat) (hi : i < q) (hj : j < size) : (marks mk k q)[i * size + j]? = (mk k i)[j]? := by
  induction q with
  | zero => omega
  | succ q ih =>
    rw [marks_succ]
    by_cases hq : i < q
    · have hlt : i * size + j < q * size := by
        have : (i + 1) * size ≤ q * size := Nat.mul_le_mul_right _ hq
        rw [Nat.succ_mul] at this; omega
      rw [List.getElem?_append_left (by rw [marks_len mk h]; exact hlt)]
      exact ih hq
    · obtain rfl : i = q := by omega
      rw [List.getElem?_append_right (by rw [marks_len mk h]; omega), marks_len mk h, Nat.add_sub_cancel_left]
end

/-- m lists, each in a block of its own. -/
structure Bags (w : World) (base : Nat) (e : TypeId) (size m : Nat) (vs : Nat → Value) (len : Nat → Nat) (C : Nat → List Value) : Prop where
  own : ∀ k, k < m → w.ownsRow base e size (vs k) (len k) (C k)
  ap : ∀ j k, j < m → k < m → j ≠ k → Apart (vs j) (vs k)
theorem Bags.keepT {w w' : World} {base : Nat} {e : TypeId} {size m : Nat} {vs : Nat → Value} {len : Nat → Nat} {C : Nat → List Value} (h : Bags w base e size m vs len C) (hk : KeepT e w w') : Bags w' base e size m vs len C :=
  ⟨fun k hm => hk.own (h.own k hm), h.ap⟩

/-- n of the m lists have grown. -/
structure Grown (w : World) (base : Nat) (e : TypeId) (size m : Nat) (mk : Nat → Nat → List Value) (vs : Nat → Value) (len : Nat → Nat) (n : Nat) (ones mores : Nat → Value) : Prop where
  b : Bags w base e size m vs len (fun k => marks mk k (len k))
  one : ∀ k, k < n → w.ownsRow base e size (ones k) (len k + 1) (marks mk k (len k + 1))
  more : ∀ k, k < n → w.ownsRow base e size (mores k) (len k + 70) (marks mk k (len k + 70))
  ap : ∀ k j, k < n → n ≤ j → j < m → Apart (ones k) (vs j) ∧ Apart (mores k) (vs j)
theorem Grown.keepT {w w' : World} {base : Nat} {e : TypeId} {size m : Nat} {mk : Nat → Nat → List Value} {vs : Nat → Value} {len : Nat → Nat} {n : Nat} {ones mores : Nat → Value} (h : Grown w base e size m mk vs len n ones mores) (hk : KeepT e w w') : Grown w' base e size m mk vs len n ones mores :=
  ⟨h.b.keepT hk, fun k hn => hk.own (h.one k hn), fun k hn => hk.own (h.more k hn), h.ap⟩

/-- List n is growing: l has i elements, o1 is what it was when it had one more. -/
structure Grows (w : World) (base : Nat) (e : TypeId) (size m : Nat) (mk : Nat → Nat → List Value) (vs : Nat → Value) (len : Nat → Nat) (n : Nat) (ones mores : Nat → Value) (i : Nat) (l o1 : Value) : Prop where
  g : Grown w base e size m mk vs len n ones mores
  own : w.ownsRow base e size l i (marks mk n i)
  sub : SubOf (vs n) l (len n)
  o : len n < i → w.ownsRow base e size o1 (len n + 1) (marks mk n (len n + 1)) ∧ SubOf o1 l (len n + 1) ∧ ∀ j, n < j → j < m → Apart o1 (vs j)
  ap : ∀ k, k < n → Apart l (ones k) ∧ Apart l (mores k)
  apv : ∀ j, j ≠ n → j < m → Apart l (vs j)
section
variable {w w' : World} {base : Nat} {e : TypeId} {size m : Nat} {mk : Nat → Nat → List Value} {vs : Nat → Value} {len : Nat → Nat} {n : Nat} {ones mores : Nat → Value} {i : Nat} {l l' o1 : Value}
theorem Grows.keepT (h : Grows w base e size m mk vs len n ones mores i l o1) (hk : KeepT e w w') : Grows w' base e size m mk vs len n ones mores i l o1 :=
  ⟨h.g.keepT hk, hk.own h.own, h.sub, fun hl => ⟨hk.own (h.o hl).1, (h.o hl).2⟩, h.ap, h.apv⟩
theorem Grown.start (h : Grown w base e size m mk vs len n ones mores) (hn : n < m) : Grows w base e size m mk vs len n ones mores (len n) (vs n) o1 :=
  ⟨h, h.b.own n hn, SubOf.of_own (h.b.own n hn), fun hl => absurd hl (Nat.lt_irrefl _), fun k hk => ⟨(h.ap k n hk (Nat.le_refl _) hn).1.symm, (h.ap k n hk (Nat.le_refl _) hn).2.symm⟩, fun j hj hm => h.b.ap n j hn hm (Ne.symm hj)⟩
theorem Grows.step (h : Grows w base e size m mk vs len n ones mores i l o1) (hsz : 0 < size) (hn : n < m) (hi : len n ≤ i) (hv' : w'.ownsRow base e size l' (i + 1) (marks mk n i ++ mk n i)) (hold : w'.ownsRow base e size l i (marks mk n i)) (hp : AppPost w w' base l l') :
    Grows w' base e size m mk vs len n ones mores (i + 1) l' (if i = len n then l' else o1) := by
  have hvn := sub_step hsz (Nat.one_pos) h.own hv' hold hp (h.g.b.own n hn) h.sub
  have hvj : ∀ j, j ≠ n → j < m → w'.ownsRow base e size (vs j) (len j) (marks mk j (len j)) ∧ Apart l' (vs j) := fun j hj hm => hp.other base e size _ (vs j) _ (h.g.b.own j hm) (h.apv j hj hm)
  have h1 : ∀ k, k < n → w'.ownsRow base e size (ones k) (len k + 1) (marks mk k (len k + 1)) ∧ Apart l' (ones k) := fun k hk => hp.other base e size _ (ones k) _ (h.g.one k hk) (h.ap k hk).1
  have h2 : ∀ k, k < n → w'.ownsRow base e size (mores k) (len k + 70) (marks mk k (len k + 70)) ∧ Apart l' (mores k) := fun k hk => hp.other base e size _ (mores k) _ (h.g.more k hk) (h.ap k hk).2
  rw [← marks_succ] at hv'
  refine ⟨⟨⟨fun k hk => ?_, h.g.b.ap⟩, fun k hk => (h1 k hk).1, fun k hk => (h2 k hk).1, h.g.ap⟩, hv', hvn.2, fun hl => ?_, fun k hk => ⟨(h1 k hk).2, (h2 k hk).2⟩, fun j hj hm => (hvj j hj hm).2⟩
  · by_cases e : k = n
    · subst e; exact hvn.1
    · exact (hvj k e hk).1
  · by_cases e : i = len n
    · rw [if_pos e]
      subst e
      exact ⟨hv', SubOf.of_own hv', fun j hj hm => (hvj j (by omega) hm).2⟩
    · rw [if_neg e]
      obtain ⟨a1, a2, a3⟩ := h.o (by omega)
      have := sub_step hsz (Nat.one_pos) h.own (by rw [← marks_succ]; exact hv') hold hp a1 a2
      exact ⟨this.1, this.2, a3⟩
theorem Grows.done (h : Grows w base e size m mk vs len n ones mores (len n + 70) l o1) (hn : n < m) : Grown w base e size m mk vs len (n + 1) (fun k => if k = n then o1 else ones k) (fun k => if k = n then l else mores k) := by
  obtain ⟨a1, a2, a3⟩ := h.o (by omega)
  refine ⟨h.g.b, fun k hk => ?_, fun k hk => ?_, fun k j hk hj hm => ?_⟩
  · by_cases e : k = n
    · subst e; simp only [if_pos]; exact a1
    · simp only [if_neg e]; exact h.g.one k (by omega)
  · by_cases e : k = n
    · subst e; simp only [if_pos]; exact h.own
    · simp only [if_neg e]; exact h.g.more k (by omega)
  · by_cases e : k = n
    · subst e; simp only [if_pos]; exact ⟨a3 j (by omega) hm, h.apv j (by omega) hm⟩
    · simp only [if_neg e]; exact h.g.ap k j (by omega) (by omega) hm
end
/-- The list of the first n of these values. -/
def firstN (f : Nat → Value) (n : Nat) : List Value := (List.range n).map f
theorem firstN_len (f : Nat → Value) (n : Nat) : (firstN f n).length = n := by simp [firstN]
theorem firstN_at (f : Nat → Value) (n k : Nat) (h : k < n) : (firstN f n)[k]? = some (f k) := by simp [firstN, h]
theorem firstN_snoc (f : Nat → Value) (n : Nat) (v : Value) : firstN f n ++ [v] = firstN (fun k => if k = n then v else f k) (n + 1) := by
  unfold firstN
  rw [List.range_succ, List.map_append]
  simp only [List.map_cons, List.map_nil, if_true]
  congr 1
  apply List.map_congr_left
  intro k hk
  rw [if_neg (by have := List.mem_range.1 hk; omega)]
theorem firstN_congr {f g : Nat → Value} {n : Nat} (h : ∀ k, k < n → f k = g k) : firstN f n = firstN g n :=
  List.map_congr_left fun k hk => h k (List.mem_range.1 hk)
end Go.Proofs.YthegepiafodpjaaDoor

namespace Go.Proofs.YthegepiafodpjaaDoor
open Go.RowKit

set_option maxRecDepth 100000 in
theorem apartBytes_nil (w : World) (bg : Nat) (h : w.cell? ⟨bg, 0, none⟩ = some (.slice none 0 0)) :
    Calls Tryd.prog 43 #[.pointer (some ⟨bg, 0, none⟩)] w fun e w' => e = .returned (.bool true) ∧ w = w' := by
  go_enter Tryd.func43, Tryd.ntmps43
  go_wp2
  go_loop [3] (fun i => i = .int .i64 0) (fun _ => 0)
  case atStart => rfl
  case round =>
    subst hrel
    go_wp2
    go_loop [6, 7] (fun v i => v = .slice none 0 0 ∧ i = .int .i64 0) (fun _ _ => 0)
    case atStart => exact ⟨rfl, rfl⟩
    case round =>
      obtain ⟨rfl, rfl⟩ := hrel
      go_wp2
      go_loop [10] (fun i => i = .int .i64 0) (fun _ => 0)
      case atStart => rfl
      case round =>
        subst hrel
        go_wp2
        go_ret
        exact ⟨rfl, rfl⟩

set_option maxRecDepth 100000 in
theorem apartInts_nil (w : World) (bg : Nat) (h : w.cell? ⟨bg, 1, none⟩ = some (.slice none 0 0)) :
    Calls Tryd.prog 44 #[.pointer (some ⟨bg, 0, none⟩)] w fun e w' => e = .returned (.bool true) ∧ w = w' := by
  go_enter Tryd.func44, Tryd.ntmps44
  go_wp2
  go_loop [3] (fun i => i = .int .i64 0) (fun _ => 0)
  case atStart => rfl
  case round =>
    subst hrel
    go_wp2
    go_loop [6, 7] (fun v i => v = .slice none 0 0 ∧ i = .int .i64 0) (fun _ _ => 0)
    case atStart => exact ⟨rfl, rfl⟩
    case round =>
      obtain ⟨rfl, rfl⟩ := hrel
      go_wp2
      go_loop [10] (fun i => i = .int .i64 0) (fun _ => 0)
      case atStart => rfl
      case round =>
        subst hrel
        go_wp2
        go_ret
        exact ⟨rfl, rfl⟩

set_option maxRecDepth 100000 in
theorem apartBools_nil (w : World) (bg : Nat) (h : w.cell? ⟨bg, 2, none⟩ = some (.slice none 0 0)) :
    Calls Tryd.prog 45 #[.pointer (some ⟨bg, 0, none⟩)] w fun e w' => e = .returned (.bool true) ∧ w = w' := by
  go_enter Tryd.func45, Tryd.ntmps45
  go_wp2
  go_loop [3] (fun i => i = .int .i64 0) (fun _ => 0)
  case atStart => rfl
  case round =>
    subst hrel
    go_wp2
    go_loop [6, 7] (fun v i => v = .slice none 0 0 ∧ i = .int .i64 0) (fun _ _ => 0)
    case atStart => exact ⟨rfl, rfl⟩
    case round =>
      obtain ⟨rfl, rfl⟩ := hrel
      go_wp2
      go_loop [10] (fun i => i = .int .i64 0) (fun _ => 0)
      case atStart => rfl
      case round =>
        subst hrel
        go_wp2
        go_ret
        exact ⟨rfl, rfl⟩

set_option maxRecDepth 100000 in
theorem apartTexts_nil (w : World) (bg : Nat) (h : w.cell? ⟨bg, 3, none⟩ = some (.slice none 0 0)) :
    Calls Tryd.prog 46 #[.pointer (some ⟨bg, 0, none⟩)] w fun e w' => e = .returned (.bool true) ∧ w = w' := by
  go_enter Tryd.func46, Tryd.ntmps46
  go_wp2
  go_loop [3] (fun i => i = .int .i64 0) (fun _ => 0)
  case atStart => rfl
  case round =>
    subst hrel
    go_wp2
    go_loop [6, 7] (fun v i => v = .slice none 0 0 ∧ i = .int .i64 0) (fun _ _ => 0)
    case atStart => exact ⟨rfl, rfl⟩
    case round =>
      obtain ⟨rfl, rfl⟩ := hrel
      go_wp2
      go_loop [10] (fun i => i = .int .i64 0) (fun _ => 0)
      case atStart => rfl
      case round =>
        subst hrel
        go_wp2
        go_ret
        exact ⟨rfl, rfl⟩

set_option maxRecDepth 100000 in
theorem apartMarks_nil (w : World) (bg : Nat) (h : w.cell? ⟨bg, 4, none⟩ = some (.slice none 0 0)) :
    Calls Tryd.prog 47 #[.pointer (some ⟨bg, 0, none⟩)] w fun e w' => e = .returned (.bool true) ∧ w = w' := by
  go_enter Tryd.func47, Tryd.ntmps47
  go_wp2
  go_loop [3] (fun i => i = .int .i64 0) (fun _ => 0)
  case atStart => rfl
  case round =>
    subst hrel
    go_wp2
    go_loop [6, 7] (fun v i => v = .slice none 0 0 ∧ i = .int .i64 0) (fun _ _ => 0)
    case atStart => exact ⟨rfl, rfl⟩
    case round =>
      obtain ⟨rfl, rfl⟩ := hrel
      go_wp2
      go_loop [10] (fun i => i = .int .i64 0) (fun _ => 0)
      case atStart => rfl
      case round =>
        subst hrel
        go_wp2
        go_ret
        exact ⟨rfl, rfl⟩

set_option maxRecDepth 100000 in
theorem apartSpans_nil (w : World) (bg : Nat) (h : w.cell? ⟨bg, 5, none⟩ = some (.slice none 0 0)) :
    Calls Tryd.prog 48 #[.pointer (some ⟨bg, 0, none⟩)] w fun e w' => e = .returned (.bool true) ∧ w = w' := by
  go_enter Tryd.func48, Tryd.ntmps48
  go_wp2
  go_loop [3] (fun i => i = .int .i64 0) (fun _ => 0)
  case atStart => rfl
  case round =>
    subst hrel
    go_wp2
    go_loop [6, 7] (fun v i => v = .slice none 0 0 ∧ i = .int .i64 0) (fun _ _ => 0)
    case atStart => exact ⟨rfl, rfl⟩
    case round =>
      obtain ⟨rfl, rfl⟩ := hrel
      go_wp2
      go_loop [10] (fun i => i = .int .i64 0) (fun _ => 0)
      case atStart => rfl
      case round =>
        subst hrel
        go_wp2
        go_ret
        exact ⟨rfl, rfl⟩

set_option maxRecDepth 100000 in
theorem apartRuns_nil (w : World) (bg : Nat) (h : w.cell? ⟨bg, 6, none⟩ = some (.slice none 0 0)) :
    Calls Tryd.prog 49 #[.pointer (some ⟨bg, 0, none⟩)] w fun e w' => e = .returned (.bool true) ∧ w = w' := by
  go_enter Tryd.func49, Tryd.ntmps49
  go_wp2
  go_loop [3] (fun i => i = .int .i64 0) (fun _ => 0)
  case atStart => rfl
  case round =>
    subst hrel
    go_wp2
    go_loop [6, 7] (fun v i => v = .slice none 0 0 ∧ i = .int .i64 0) (fun _ _ => 0)
    case atStart => exact ⟨rfl, rfl⟩
    case round =>
      obtain ⟨rfl, rfl⟩ := hrel
      go_wp2
      go_loop [10] (fun i => i = .int .i64 0) (fun _ => 0)
      case atStart => rfl
      case round =>
        subst hrel
        go_wp2
        go_ret
        exact ⟨rfl, rfl⟩

set_option maxRecDepth 100000 in
theorem apartClasses_nil (w : World) (bg : Nat) (h : w.cell? ⟨bg, 7, none⟩ = some (.slice none 0 0)) :
    Calls Tryd.prog 50 #[.pointer (some ⟨bg, 0, none⟩)] w fun e w' => e = .returned (.bool true) ∧ w = w' := by
  go_enter Tryd.func50, Tryd.ntmps50
  go_wp2
  go_loop [3] (fun i => i = .int .i64 0) (fun _ => 0)
  case atStart => rfl
  case round =>
    subst hrel
    go_wp2
    go_loop [6, 7] (fun v i => v = .slice none 0 0 ∧ i = .int .i64 0) (fun _ _ => 0)
    case atStart => exact ⟨rfl, rfl⟩
    case round =>
      obtain ⟨rfl, rfl⟩ := hrel
      go_wp2
      go_loop [10] (fun i => i = .int .i64 0) (fun _ => 0)
      case atStart => rfl
      case round =>
        subst hrel
        go_wp2
        go_ret
        exact ⟨rfl, rfl⟩

set_option maxRecDepth 100000 in
theorem apartNodes_nil (w : World) (bg : Nat) (h : w.cell? ⟨bg, 8, none⟩ = some (.slice none 0 0)) :
    Calls Tryd.prog 51 #[.pointer (some ⟨bg, 0, none⟩)] w fun e w' => e = .returned (.bool true) ∧ w = w' := by
  go_enter Tryd.func51, Tryd.ntmps51
  go_wp2
  go_loop [3] (fun i => i = .int .i64 0) (fun _ => 0)
  case atStart => rfl
  case round =>
    subst hrel
    go_wp2
    go_loop [6, 7] (fun v i => v = .slice none 0 0 ∧ i = .int .i64 0) (fun _ _ => 0)
    case atStart => exact ⟨rfl, rfl⟩
    case round =>
      obtain ⟨rfl, rfl⟩ := hrel
      go_wp2
      go_loop [10] (fun i => i = .int .i64 0) (fun _ => 0)
      case atStart => rfl
      case round =>
        subst hrel
        go_wp2
        go_ret
        exact ⟨rfl, rfl⟩

set_option maxRecDepth 100000 in
theorem apartInstrs_nil (w : World) (bg : Nat) (h : w.cell? ⟨bg, 9, none⟩ = some (.slice none 0 0)) :
    Calls Tryd.prog 52 #[.pointer (some ⟨bg, 0, none⟩)] w fun e w' => e = .returned (.bool true) ∧ w = w' := by
  go_enter Tryd.func52, Tryd.ntmps52
  go_wp2
  go_loop [3] (fun i => i = .int .i64 0) (fun _ => 0)
  case atStart => rfl
  case round =>
    subst hrel
    go_wp2
    go_loop [6, 7] (fun v i => v = .slice none 0 0 ∧ i = .int .i64 0) (fun _ _ => 0)
    case atStart => exact ⟨rfl, rfl⟩
    case round =>
      obtain ⟨rfl, rfl⟩ := hrel
      go_wp2
      go_loop [10] (fun i => i = .int .i64 0) (fun _ => 0)
      case atStart => rfl
      case round =>
        subst hrel
        go_wp2
        go_ret
        exact ⟨rfl, rfl⟩

set_option maxRecDepth 100000 in
theorem apartFaults_nil (w : World) (bg : Nat) (h : w.cell? ⟨bg, 10, none⟩ = some (.slice none 0 0)) :
    Calls Tryd.prog 53 #[.pointer (some ⟨bg, 0, none⟩)] w fun e w' => e = .returned (.bool true) ∧ w = w' := by
  go_enter Tryd.func53, Tryd.ntmps53
  go_wp2
  go_loop [3] (fun i => i = .int .i64 0) (fun _ => 0)
  case atStart => rfl
  case round =>
    subst hrel
    go_wp2
    go_loop [6, 7] (fun v i => v = .slice none 0 0 ∧ i = .int .i64 0) (fun _ _ => 0)
    case atStart => exact ⟨rfl, rfl⟩
    case round =>
      obtain ⟨rfl, rfl⟩ := hrel
      go_wp2
      go_loop [10] (fun i => i = .int .i64 0) (fun _ => 0)
      case atStart => rfl
      case round =>
        subst hrel
        go_wp2
        go_ret
        exact ⟨rfl, rfl⟩

set_option maxRecDepth 100000 in
theorem apartNotes_nil (w : World) (bg : Nat) (h : w.cell? ⟨bg, 11, none⟩ = some (.slice none 0 0)) :
    Calls Tryd.prog 54 #[.pointer (some ⟨bg, 0, none⟩)] w fun e w' => e = .returned (.bool true) ∧ w = w' := by
  go_enter Tryd.func54, Tryd.ntmps54
  go_wp2
  go_loop [3] (fun i => i = .int .i64 0) (fun _ => 0)
  case atStart => rfl
  case round =>
    subst hrel
    go_wp2
    go_loop [6, 7] (fun v i => v = .slice none 0 0 ∧ i = .int .i64 0) (fun _ _ => 0)
    case atStart => exact ⟨rfl, rfl⟩
    case round =>
      obtain ⟨rfl, rfl⟩ := hrel
      go_wp2
      go_loop [10] (fun i => i = .int .i64 0) (fun _ => 0)
      case atStart => rfl
      case round =>
        subst hrel
        go_wp2
        go_ret
        exact ⟨rfl, rfl⟩

set_option maxRecDepth 100000 in
theorem apartParts_nil (w : World) (bg : Nat) (h : w.cell? ⟨bg, 12, none⟩ = some (.slice none 0 0)) :
    Calls Tryd.prog 55 #[.pointer (some ⟨bg, 0, none⟩)] w fun e w' => e = .returned (.bool true) ∧ w = w' := by
  go_enter Tryd.func55, Tryd.ntmps55
  go_wp2
  go_loop [3] (fun i => i = .int .i64 0) (fun _ => 0)
  case atStart => rfl
  case round =>
    subst hrel
    go_wp2
    go_loop [6, 7] (fun v i => v = .slice none 0 0 ∧ i = .int .i64 0) (fun _ _ => 0)
    case atStart => exact ⟨rfl, rfl⟩
    case round =>
      obtain ⟨rfl, rfl⟩ := hrel
      go_wp2
      go_loop [10] (fun i => i = .int .i64 0) (fun _ => 0)
      case atStart => rfl
      case round =>
        subst hrel
        go_wp2
        go_ret
        exact ⟨rfl, rfl⟩

set_option maxRecDepth 100000 in
theorem apartRows_nil (w : World) (bg : Nat) (h : w.cell? ⟨bg, 13, none⟩ = some (.slice none 0 0)) :
    Calls Tryd.prog 56 #[.pointer (some ⟨bg, 0, none⟩)] w fun e w' => e = .returned (.bool true) ∧ w = w' := by
  go_enter Tryd.func56, Tryd.ntmps56
  go_wp2
  go_loop [3] (fun i => i = .int .i64 0) (fun _ => 0)
  case atStart => rfl
  case round =>
    subst hrel
    go_wp2
    go_loop [6, 7] (fun v i => v = .slice none 0 0 ∧ i = .int .i64 0) (fun _ _ => 0)
    case atStart => exact ⟨rfl, rfl⟩
    case round =>
      obtain ⟨rfl, rfl⟩ := hrel
      go_wp2
      go_loop [10] (fun i => i = .int .i64 0) (fun _ => 0)
      case atStart => rfl
      case round =>
        subst hrel
        go_wp2
        go_ret
        exact ⟨rfl, rfl⟩

set_option maxRecDepth 100000 in
theorem apartIntss_nil (w : World) (bg : Nat) (h : w.cell? ⟨bg, 14, none⟩ = some (.slice none 0 0)) :
    Calls Tryd.prog 57 #[.pointer (some ⟨bg, 0, none⟩)] w fun e w' => e = .returned (.bool true) ∧ w = w' := by
  go_enter Tryd.func57, Tryd.ntmps57
  go_wp2
  go_loop [3] (fun i => i = .int .i64 0) (fun _ => 0)
  case atStart => rfl
  case round =>
    subst hrel
    go_wp2
    go_loop [6, 7] (fun v i => v = .slice none 0 0 ∧ i = .int .i64 0) (fun _ _ => 0)
    case atStart => exact ⟨rfl, rfl⟩
    case round =>
      obtain ⟨rfl, rfl⟩ := hrel
      go_wp2
      go_loop [10] (fun i => i = .int .i64 0) (fun _ => 0)
      case atStart => rfl
      case round =>
        subst hrel
        go_wp2
        go_ret
        exact ⟨rfl, rfl⟩

set_option maxRecDepth 100000 in
theorem apartSpanss_nil (w : World) (bg : Nat) (h : w.cell? ⟨bg, 15, none⟩ = some (.slice none 0 0)) :
    Calls Tryd.prog 58 #[.pointer (some ⟨bg, 0, none⟩)] w fun e w' => e = .returned (.bool true) ∧ w = w' := by
  go_enter Tryd.func58, Tryd.ntmps58
  go_wp2
  go_loop [3] (fun i => i = .int .i64 0) (fun _ => 0)
  case atStart => rfl
  case round =>
    subst hrel
    go_wp2
    go_loop [6, 7] (fun v i => v = .slice none 0 0 ∧ i = .int .i64 0) (fun _ _ => 0)
    case atStart => exact ⟨rfl, rfl⟩
    case round =>
      obtain ⟨rfl, rfl⟩ := hrel
      go_wp2
      go_loop [10] (fun i => i = .int .i64 0) (fun _ => 0)
      case atStart => rfl
      case round =>
        subst hrel
        go_wp2
        go_ret
        exact ⟨rfl, rfl⟩

set_option maxRecDepth 100000 in
theorem apartPieces_nil (w : World) (bg : Nat) (h : w.cell? ⟨bg, 16, none⟩ = some (.slice none 0 0)) :
    Calls Tryd.prog 59 #[.pointer (some ⟨bg, 0, none⟩)] w fun e w' => e = .returned (.bool true) ∧ w = w' := by
  go_enter Tryd.func59, Tryd.ntmps59
  go_wp2
  go_loop [3] (fun i => i = .int .i64 0) (fun _ => 0)
  case atStart => rfl
  case round =>
    subst hrel
    go_wp2
    go_loop [6, 7] (fun v i => v = .slice none 0 0 ∧ i = .int .i64 0) (fun _ _ => 0)
    case atStart => exact ⟨rfl, rfl⟩
    case round =>
      obtain ⟨rfl, rfl⟩ := hrel
      go_wp2
      go_loop [10] (fun i => i = .int .i64 0) (fun _ => 0)
      case atStart => rfl
      case round =>
        subst hrel
        go_wp2
        go_ret
        exact ⟨rfl, rfl⟩

set_option maxRecDepth 100000 in
theorem apartFiles_nil (w : World) (bg : Nat) (h : w.cell? ⟨bg, 17, none⟩ = some (.slice none 0 0)) :
    Calls Tryd.prog 60 #[.pointer (some ⟨bg, 0, none⟩)] w fun e w' => e = .returned (.bool true) ∧ w = w' := by
  go_enter Tryd.func60, Tryd.ntmps60
  go_wp2
  go_loop [3] (fun i => i = .int .i64 0) (fun _ => 0)
  case atStart => rfl
  case round =>
    subst hrel
    go_wp2
    go_loop [6, 7] (fun v i => v = .slice none 0 0 ∧ i = .int .i64 0) (fun _ _ => 0)
    case atStart => exact ⟨rfl, rfl⟩
    case round =>
      obtain ⟨rfl, rfl⟩ := hrel
      go_wp2
      go_loop [10] (fun i => i = .int .i64 0) (fun _ => 0)
      case atStart => rfl
      case round =>
        subst hrel
        go_wp2
        go_ret
        exact ⟨rfl, rfl⟩

set_option maxRecDepth 100000 in
theorem apartCmds_nil (w : World) (bg : Nat) (h : w.cell? ⟨bg, 18, none⟩ = some (.slice none 0 0)) :
    Calls Tryd.prog 61 #[.pointer (some ⟨bg, 0, none⟩)] w fun e w' => e = .returned (.bool true) ∧ w = w' := by
  go_enter Tryd.func61, Tryd.ntmps61
  go_wp2
  go_loop [3] (fun i => i = .int .i64 0) (fun _ => 0)
  case atStart => rfl
  case round =>
    subst hrel
    go_wp2
    go_loop [6, 7] (fun v i => v = .slice none 0 0 ∧ i = .int .i64 0) (fun _ _ => 0)
    case atStart => exact ⟨rfl, rfl⟩
    case round =>
      obtain ⟨rfl, rfl⟩ := hrel
      go_wp2
      go_loop [10] (fun i => i = .int .i64 0) (fun _ => 0)
      case atStart => rfl
      case round =>
        subst hrel
        go_wp2
        go_ret
        exact ⟨rfl, rfl⟩
end Go.Proofs.YthegepiafodpjaaDoor

namespace Go.Proofs.YthegepiafodpjaaDoor
open Go.RowKit

theorem infoL : (Tryd.prog.info? 91).map (fun i => (i.zero, i.size, i.bytes)) = some (some (.slice none 0 0), 1, 24) := by kernel_rfl

/-- append(list, y): one more element of a list of lists of bytes. -/
theorem append_l1 {ops : Array Oper} {rest : List Oper} {o : Oper} {a : Act} {w : World} {Q : Exit → Act → World → Prop} (hgd : o.guard = none) (s x : Operand)
    (ho : o.op = .call { callee := .builtin .append, args := #[s, x], argTypes := #[39, 39] })
    (base : Nat) (v : Value) (n : Nat) (us : List Value) (y : Value) (hs : a.eval s = v) (hown : w.ownsRow base 91 1 v n us) (hx : a.eval x = .slice (some ⟨w.heap.size, 0, none⟩) 1 1) (hy : y.oneCell' = true) (hsum : n + 1 ≤ 5864062014805) (hbase : base ≤ w.heap.size)
    (h : ∀ v' w', w'.ownsRow base 91 1 v' (n + 1) (us ++ [y]) → w'.ownsRow base 91 1 v n us → AppPost w w' base v v' → wpList Tryd.prog ops Q rest (a.put o.dst v') w') :
    wpList Tryd.prog ops Q (o :: rest) a (w.alloc (.cells #[y] 91)) := by
  obtain ⟨i0, hi, hz0, hz1, hz2⟩ := info_parts infoL
  exact append_new hgd s x 39 91 i0 (.slice none 0 0) 1 24 ho Tryd.underlying39 hi hz0 hz1 hz2 rfl (by decide) base v n us hs hown 1 [y] #[y] rfl rfl (fun u hu => by simp at hu; subst hu; exact hy) hx (by unfold maxLen; omega) (by omega) hbase h
/-- append(l, y): one more byte; the old list stays. -/
theorem append_u1 {ops : Array Oper} {rest : List Oper} {o : Oper} {a : Act} {w : World} {Q : Exit → Act → World → Prop} (hgd : o.guard = none) (s x : Operand)
    (ho : o.op = .call { callee := .builtin .append, args := #[s, x], argTypes := #[91, 91] })
    (base : Nat) (v : Value) (n : Nat) (us : List Value) (y : Int) (hs : a.eval s = v) (hown : w.ownsRow base 5 1 v n us) (hx : a.eval x = .slice (some ⟨w.heap.size, 0, none⟩) 1 1) (hsum : n + 1 ≤ 140737488355328) (hbase : base ≤ w.heap.size)
    (h : ∀ v' w', w'.ownsRow base 5 1 v' (n + 1) (us ++ [.int .u8 y]) → w'.ownsRow base 5 1 v n us → AppPost w w' base v v' → wpList Tryd.prog ops Q rest (a.put o.dst v') w') :
    wpList Tryd.prog ops Q (o :: rest) a (w.alloc (.cells #[.int .u8 y] 5)) := by
  obtain ⟨i0, hi, hz0, hz1, hz2⟩ := info_parts infoB
  exact append_new hgd s x 91 5 i0 (.int .u8 0) 1 1 ho Tryd.underlying91 hi hz0 hz1 hz2 rfl (by decide) base v n us hs hown 1 [.int .u8 y] #[.int .u8 y] rfl rfl (fun u hu => by simp at hu; subst hu; rfl) hx (by unfold maxLen; omega) (by omega) hbase h

/-- The block of a bag: its lists' heads. -/
def BagAt (w : World) (bg : Nat) (fs : List Value) : Prop := w.heap[bg]? = some (.cells fs.toArray 59 (0, 0))
theorem BagAt.lt {w : World} {bg : Nat} {fs : List Value} (h : BagAt w bg fs) : bg < w.heap.size := (Array.getElem?_eq_some_iff.1 h).1
theorem BagAt.cell {w : World} {bg : Nat} {fs : List Value} (h : BagAt w bg fs) (i : Nat) : w.cell? ⟨bg, i, none⟩ = fs[i]? := by
  rw [cell_of_row w bg i _ _ (0, 0) h]; simp
theorem BagAt.frozen {w : World} {bg : Nat} {fs : List Value} (h : BagAt w bg fs) (i : Nat) : w.frozen? ⟨bg, i, none⟩ = false := frozen_of_row w bg i _ _ h
theorem BagAt.set {w : World} {bg : Nat} {fs : List Value} (h : BagAt w bg fs) (i : Nat) (v : Value) : BagAt (w.setCell ⟨bg, i, none⟩ v) bg (fs.set i v) := by
  unfold BagAt
  rw [heap_setCell_same w bg i _ _ v h]
  simp
theorem BagAt.keepT {w w' : World} {bg : Nat} {fs : List Value} (h : BagAt w bg fs) (hk : KeepT 59 w w') : BagAt w' bg fs := (hk bg _ h).trans h
theorem keepT_bag {e : TypeId} {w : World} {bg i : Nat} {fs : List Value} (h : BagAt w bg fs) (hne : e ≠ 59) (u : Value) : KeepT e w (w.setCell ⟨bg, i, none⟩ u) := fun k cur hk =>
  heap_setCell_other w ⟨bg, i, none⟩ k u fun e2 => by
    simp only at e2
    subst e2
    unfold BagAt at h
    rw [hk] at h
    simp only [Option.some.injEq, Obj.cells.injEq] at h
    exact hne h.2.1
theorem neUL : (5 : TypeId) ≠ 91 := by decide
theorem neUG : (5 : TypeId) ≠ 59 := by decide
theorem neLG : (91 : TypeId) ≠ 59 := by decide

/-! ### What the three lists of lists hold -/
structure Lst (w : World) (base : Nat) (bv ov mv : Value) (m p q : Nat) (vs ones mores : Nat → Value) : Prop where
  b : w.ownsRow base 91 1 bv m (firstN vs m)
  o : w.ownsRow base 91 1 ov p (firstN ones p)
  m : w.ownsRow base 91 1 mv q (firstN mores q)
  bo : Apart ov bv
  bm : Apart mv bv
  om : Apart ov mv
section
variable {w w' : World} {base : Nat} {bv ov mv ov' mv' l : Value} {m p q : Nat} {vs ones mores : Nat → Value}
theorem Lst.keepT (h : Lst w base bv ov mv m p q vs ones mores) (hk : KeepT 91 w w') : Lst w' base bv ov mv m p q vs ones mores := { h with b := hk.own h.b, o := hk.own h.o, m := hk.own h.m }
theorem Lst.congr {ones' : Nat → Value} (h : Lst w base bv ov mv m p q vs ones mores) (he : ∀ k, k < p → ones k = ones' k) : Lst w base bv ov mv m p q vs ones' mores := { h with o := by rw [← firstN_congr he]; exact h.o }
theorem Lst.one (h : Lst w base bv ov mv m p q vs ones mores) (ho : w'.ownsRow base 91 1 ov' (p + 1) (firstN ones p ++ [l])) (hp : AppPost w w' base ov ov') : Lst w' base bv ov' mv m (p + 1) q vs (fun k => if k = p then l else ones k) mores := by
  have h1 := hp.other base _ _ _ bv _ h.b h.bo
  have h2 := hp.other base _ _ _ mv _ h.m h.om
  exact ⟨h1.1, by rw [← firstN_snoc]; exact ho, h2.1, h1.2, h.bm, h2.2⟩
theorem Lst.more (h : Lst w base bv ov mv m p q vs ones mores) (ho : w'.ownsRow base 91 1 mv' (q + 1) (firstN mores q ++ [l])) (hp : AppPost w w' base mv mv') : Lst w' base bv ov mv' m p (q + 1) vs ones (fun k => if k = q then l else mores k) := by
  have h1 := hp.other base _ _ _ bv _ h.b h.bm
  have h2 := hp.other base _ _ _ ov _ h.o h.om.symm
  exact ⟨h1.1, h2.1, by rw [← firstN_snoc]; exact ho, h.bo, h1.2, h2.2.symm⟩
end

/-- What stays while a bag is looked at. -/
structure Fr (w wr : World) (base bg : Nat) : Prop where
  bag : wr.heap[bg]? = w.heap[bg]?
  bel : ∀ B w0, Below B w0 w → B ≤ base → Below B w0 wr
  size : w.heap.size ≤ wr.heap.size
theorem Fr.refl (w : World) (base bg : Nat) : Fr w w base bg := ⟨rfl, fun _ _ h _ => h, Nat.le_refl _⟩
theorem Fr.at_ {w wr : World} {base bg : Nat} {fs : List Value} (h : Fr w wr base bg) (hb : BagAt w bg fs) : BagAt wr bg fs := h.bag.trans hb
theorem Fr.app {w wr w' : World} {base bg b2 s n : Nat} {e : TypeId} {v v' : Value} {xs fs : List Value} (h : Fr w wr base bg) (hb : BagAt w bg fs) (hv : wr.ownsRow b2 e s v n xs) (hne : e ≠ 59) (hp : AppPost wr w' base v v') : Fr w w' base bg :=
  ⟨((KeepT.of_app hv hp hne) bg _ (h.at_ hb)).trans h.bag, fun B w0 h0 hB => hp.bel B w0 (h.bel B w0 h0 hB) hB, Nat.le_trans h.size hp.size⟩
theorem Fr.cell {w wr : World} {base bg g i : Nat} (h : Fr w wr base bg) (hg : base ≤ g) (hne : g ≠ bg) (u : Value) : Fr w (wr.setCell ⟨g, i, none⟩ u) base bg :=
  ⟨(heap_setCell_other wr ⟨g, i, none⟩ bg u (fun e => hne e.symm)).trans h.bag, fun B w0 h0 hB => (h.bel B w0 h0 hB).setCell (by show B ≤ g; omega) u, by simpa using h.size⟩

/-- The same, with other blocks that stay. -/
structure FrT (w wr : World) (base bg : Nat) (T : Nat → Prop) : Prop where
  bag : wr.heap[bg]? = w.heap[bg]?
  bel : ∀ B w0, Below B w0 w → B ≤ base → Below B w0 wr
  size : w.heap.size ≤ wr.heap.size
  lt : ∀ k, T k → k < w.heap.size
  kept : ∀ k, T k → wr.heap[k]? = w.heap[k]?
theorem FrT.fr {w wr : World} {base bg : Nat} {T : Nat → Prop} (h : FrT w wr base bg T) : Fr w wr base bg := ⟨h.bag, h.bel, h.size⟩
theorem FrT.refl (w : World) (base bg : Nat) (T : Nat → Prop) (hT : ∀ k, T k → k < w.heap.size) : FrT w w base bg T := ⟨rfl, fun _ _ h _ => h, Nat.le_refl _, hT, fun _ _ => rfl⟩
theorem FrT.at_ {w wr : World} {base bg : Nat} {T : Nat → Prop} {fs : List Value} (h : FrT w wr base bg T) (hb : BagAt w bg fs) : BagAt wr bg fs := h.bag.trans hb
/-- A list lies in none of these blocks. -/
def FarT (T : Nat → Prop) (v : Value) : Prop := ∀ k, T k → v.ownBlock ≠ some k
theorem FarT.nil (T : Nat → Prop) : FarT T (.slice none 0 0) := fun k _ h => by simp [Value.ownBlock] at h
theorem FarT.app {T : Nat → Prop} {w wr w' : World} {base bg b2 : Nat} {v v' : Value} (h : FarT T v) (hF : FrT w wr base bg T) (hp : AppPost wr w' b2 v v') : FarT T v' := fun k hk e => by
  rcases hp.new k e with e | e
  · exact h k hk e
  · have := hF.lt k hk; have := hF.size; omega
theorem FrT.app {w wr w' : World} {base bg b2 s n : Nat} {T : Nat → Prop} {e : TypeId} {v v' : Value} {xs fs : List Value} (h : FrT w wr base bg T) (hb : BagAt w bg fs) (hv : wr.ownsRow b2 e s v n xs) (hne : e ≠ 59) (hp : AppPost wr w' base v v') (hT : FarT T v) : FrT w w' base bg T :=
  ⟨((KeepT.of_app hv hp hne) bg _ (h.at_ hb)).trans h.bag, fun B w0 h0 hB => hp.bel B w0 (h.bel B w0 h0 hB) hB, Nat.le_trans h.size hp.size, h.lt, fun k hk => (hp.block k (Nat.lt_of_lt_of_le (h.lt k hk) h.size) (hT k hk)).trans (h.kept k hk)⟩
theorem FrT.cell {w wr : World} {base bg g i : Nat} {T : Nat → Prop} (h : FrT w wr base bg T) (hg : base ≤ g) (hne : g ≠ bg) (u : Value) (hT : ¬ T g) : FrT w (wr.setCell ⟨g, i, none⟩ u) base bg T :=
  ⟨(heap_setCell_other wr ⟨g, i, none⟩ bg u (fun e => hne e.symm)).trans h.bag, fun B w0 h0 hB => (h.bel B w0 h0 hB).setCell (by show B ≤ g; omega) u, by simpa using h.size, h.lt, fun k hk => (heap_setCell_other wr ⟨g, i, none⟩ k u (fun e => hT (by have e : k = g := e; rw [← e]; exact hk))).trans (h.kept k hk)⟩

/-- The mark of a byte. -/
def mkB (n i : Nat) : Int := IntKind.u8.wrap (31 * (n : Int) + 7 * (i : Int) + 3)
def mkBs (n i : Nat) : List Value := [.int .u8 (mkB n i)]
theorem mkBs_len (n i : Nat) : (mkBs n i).length = 1 := rfl
theorem mkB_at (n q i : Nat) (h : i < q) : (marks mkBs n q)[i]? = some (.int .u8 (mkB n i)) := by
  have := marks_at mkBs mkBs_len n q i 0 h Nat.one_pos
  simpa [mkBs] using this
/-- The contents while list n is being written, i elements of it. -/
def half (n i : Nat) (len : Nat → Nat) (C : Nat → List Value) (k : Nat) : List Value := if k < n then marks mkBs k (len k) else if k = n then marks mkBs n i ++ (C n).drop i else C k
theorem half_next (n : Nat) (len : Nat → Nat) (C : Nat → List Value) (hl : (C n).length = len n) : half n (len n) len C = half (n + 1) 0 len C := by
  funext k
  unfold half
  by_cases h1 : k < n
  · rw [if_pos h1, if_pos (by omega)]
  · rw [if_neg h1]
    by_cases h2 : k = n
    · subst h2
      rw [if_pos rfl, if_pos (by omega), List.drop_of_length_le (by omega), List.append_nil]
    · rw [if_neg h2, if_neg (by omega)]
      by_cases h3 : k = n + 1
      · subst h3; rw [if_pos rfl]; rfl
      · rw [if_neg h3]
theorem half_zero (len : Nat → Nat) (C : Nat → List Value) : half 0 0 len C = C := by
  funext k
  unfold half
  rw [if_neg (by omega)]
  split
  · subst_vars; rfl
  · rfl
theorem half_self (n i : Nat) (len : Nat → Nat) (C : Nat → List Value) : half n i len C n = marks mkBs n i ++ (C n).drop i := by unfold half; rw [if_neg (by omega), if_pos rfl]
theorem half_set (n i : Nat) (len : Nat → Nat) (C : Nat → List Value) (hi : i < (C n).length) : (half n i len C n).set i (.int .u8 (mkB n i)) = half n (i + 1) len C n := by
  rw [half_self, half_self, marks_succ, List.set_append, marks_len mkBs mkBs_len]
  rw [if_neg (by omega), Nat.mul_one, Nat.sub_self, List.drop_eq_getElem_cons hi, List.set_cons_zero, List.append_assoc]
  rfl
theorem half_other (n i : Nat) (len : Nat → Nat) (C : Nat → List Value) (k : Nat) (h : k ≠ n) : half n i len C k = half n (i + 1) len C k := by
  unfold half
  by_cases h1 : k < n
  · rw [if_pos h1, if_pos h1]
  · rw [if_neg h1, if_neg h1, if_neg h, if_neg h]
theorem half_all (m : Nat) (len : Nat → Nat) (C : Nat → List Value) (k : Nat) (h : k < m) : half m 0 len C k = marks mkBs k (len k) := by unfold half; rw [if_pos h]
/-- A byte is written into list n. -/
theorem Bags.put {w : World} {base m n i g cap : Nat} {vs : Nat → Value} {len : Nat → Nat} {C : Nat → List Value} (h : Bags w base 5 1 m vs len (half n i len C)) (hn : n < m) (hv : vs n = .slice (some ⟨g, 0, none⟩) (len n) cap) (hi : i < (C n).length) :
    Bags (w.setCell ⟨g, i, none⟩ (.int .u8 (mkB n i))) base 5 1 m vs len (half n (i + 1) len C) := by
  have h0 := h.own n hn
  rw [hv] at h0
  obtain ⟨h1, h2⟩ := World.ownsRow.stored h0 i (.int .u8 (mkB n i))
  rw [half_set n i len C hi, ← hv] at h1
  refine ⟨fun k hk => ?_, h.ap⟩
  by_cases e : k = n
  · subst e; exact h1
  · rw [← half_other n i len C k e]
    refine World.ownsRow.kept (h.own k hk) h2 ?_
    by_cases hb : (vs k).ownBlock = some g
    · exact absurd (by rw [hv]; rfl) (h.ap k n hk hn e g hb)
    · exact .inr hb
theorem Bags.keep_lists {w : World} {base m n i g cap : Nat} {vs : Nat → Value} {len : Nat → Nat} {C : Nat → List Value} (h : Bags w base 5 1 m vs len C) (hn : n < m) (hv : vs n = .slice (some ⟨g, 0, none⟩) (len n) cap) (u : Value) : KeepT 91 w (w.setCell ⟨g, i, none⟩ u) ∧ base ≤ g ∧ (∀ fs bg, BagAt w bg fs → g ≠ bg) := by
  have h0 := h.own n hn
  rw [hv] at h0
  rcases h0.2 with ⟨h1, _⟩ | ⟨g', cap', cur, h1, hb, hg, _⟩
  · simp at h1
  · simp only [Value.slice.injEq, Option.some.injEq, Addr.mk.injEq, and_true, true_and] at h1
    obtain ⟨rfl, rfl⟩ := h1
    refine ⟨fun k cur' hk => heap_setCell_other w ⟨g, i, none⟩ k u (fun e => ?_), hb, fun fs bg hbg e => ?_⟩
    · simp only at e
      subst e
      rw [hg] at hk
      simp only [Option.some.injEq, Obj.cells.injEq] at hk
      exact neUL hk.2.1
    · subst e
      unfold BagAt at hbg
      rw [hg] at hbg
      simp only [Option.some.injEq, Obj.cells.injEq] at hbg
      exact neUG hbg.2.1

theorem row_cell {w : World} {base n cap g : Nat} {e : TypeId} {us : List Value} (h : w.ownsRow base e 1 (.slice (some ⟨g, 0, none⟩) n cap) n us) (k : Nat) (hk : k < n) : w.cell? ⟨g, k, none⟩ = us[k]? := World.ownsRow.cellAt h k (by omega)
theorem own_some {w : World} {base n : Nat} {e : TypeId} {v : Value} {us : List Value} (h : w.ownsRow base e 1 v n us) (hn : 0 < n) : ∃ g cap, v = .slice (some ⟨g, 0, none⟩) n cap ∧ n ≤ cap := by
  rcases h.2 with ⟨_, h0⟩ | ⟨g, cap, cur, rfl, _, _, hc, _⟩
  · omega
  · exact ⟨g, cap, rfl, hc⟩
end Go.Proofs.YthegepiafodpjaaDoor

namespace Go.Proofs.YthegepiafodpjaaDoor
open Go.RowKit

/-- What AddBytes leaves. -/
structure Added (w w' : World) (base bg : Nat) (bv bv' : Value) (us : List Value) (rest : List Value) (u : Value) : Prop where
  bag : BagAt w' bg (bv' :: rest)
  own : w'.ownsRow base 91 1 bv' (us.length + 1) (us ++ [u])
  keep : KeepT 5 w w'
  blk : ∀ k, k < w.heap.size → k ≠ bg → bv.ownBlock ≠ some k → w'.heap[k]? = w.heap[k]?
  new : ∀ k, bv'.ownBlock = some k → bv.ownBlock = some k ∨ w.heap.size ≤ k
  bel : ∀ B w0, Below B w0 w → B ≤ base → B ≤ bg → Below B w0 w'
  size : w.heap.size ≤ w'.heap.size
def AddedPost (w : World) (base bg : Nat) (bv : Value) (us rest : List Value) (u : Value) (e : Ending) (w' : World) : Prop := e = .returned undef ∧ ∃ bv', Added w w' base bg bv bv' us rest u

set_option maxRecDepth 100000 in
set_option maxHeartbeats 2000000 in
theorem apartBytes_T (T : Nat → Prop) (w : World) (base bg m : Nat) (bv : Value) (rest : List Value) (vs : Nat → Value) (len : Nat → Nat) (C : Nat → List Value) (hbag : BagAt w bg (bv :: rest)) (hbv : w.ownsRow base 91 1 bv m (firstN vs m)) (hm : m ≤ 400) (hB : Bags w base 5 1 m vs len C)
    (hlen : ∀ k, k < m → len k ≤ 140737488351232) (hbase : base ≤ w.heap.size) (hT : ∀ k, T k → k < w.heap.size) (hTV : ∀ j, j < m → FarT T (vs j)) :
    Calls Tryd.prog 43 #[.pointer (some ⟨bg, 0, none⟩)] w fun e w' => e = .returned (.bool true) ∧ FrT w w' base bg T := by
  obtain ⟨bb, bc, rfl⟩ := own_shape hbv
  have HBAG := Lib.hid hbag
  have HBV := Lib.hid hbv
  have HLEN := Lib.hid hlen
  have HTV := Lib.hid hTV
  have hCl : ∀ k, k < m → (C k).length = len k := fun k hk => by have := (hB.own k hk).1; omega
  have HCL := Lib.hid hCl
  have hB0 : Bags w base 5 1 m vs len (half 0 0 len C) := by rw [half_zero]; exact hB
  clear hbag hbv hlen hCl hB hTV
  go_enter Tryd.func43, Tryd.ntmps43
  go_wp2
  go_loopw [3] (fun v3 wr => ∃ n : Nat, n ≤ m ∧ v3 = .int .i64 n ∧ Bags wr base 5 1 m vs len (half n 0 len C) ∧ wr.ownsRow base 91 1 (.slice bb m bc) m (firstN vs m) ∧ FrT w wr base bg T) (fun v3 _ => m - (intOf v3).toNat)
  case atStart => exact ⟨0, Nat.zero_le _, rfl, hB0, HBV.out, FrT.refl _ _ _ _ hT⟩
  case round =>
    obtain ⟨n, hn, rfl, hBn, hbv, hF⟩ := hrel
    have hc0 : wr.cell? ⟨bg, 0, none⟩ = some (.slice bb m bc) := (hF.at_ HBAG.out).cell 0
    by_cases hlt : n < m
    · have hd1 : decide ((n : Int) < (m : Int)) = true := by simp; omega
      obtain ⟨gb, cb, he, hmc⟩ := own_some hbv (by omega)
      simp only [Value.slice.injEq] at he
      obtain ⟨rfl, -, rfl⟩ := he
      have hgbb := hF.at_ HBAG.out
      have hcn : wr.cell? ⟨gb, n, none⟩ = some (vs n) := (row_cell hbv n hlt).trans (firstN_at vs m n hlt)
      obtain ⟨an, cn, hvn⟩ := own_shape (hBn.own n hlt)
      rw [hvn] at hcn
      have hln := HLEN.out n hlt
      have HVN := Lib.hid hvn
      have HB1 := Lib.hid hBn
      have HBV1 := Lib.hid hbv
      have HF1 := Lib.hid hF
      obtain ⟨ln, hlnn⟩ : ∃ q, len n = q := ⟨_, rfl⟩
      have HLN := Lib.hid hlnn
      rw [hlnn] at hln hcn
      clear hBn hbv hF hB0 hvn hlnn hgbb
      go_wp2_with fail
      rename World => w1
      go_loopw [4] (fun v4 wr => ∃ i : Nat, i ≤ ln ∧ v4 = .int .i64 i ∧ Bags wr base 5 1 m vs len (half n i len C) ∧ wr.ownsRow base 91 1 (.slice (some ⟨gb, 0, none⟩) m bc) m (firstN vs m) ∧ FrT w wr base bg T) (fun v4 _ => ln - (intOf v4).toNat)
      case atStart => exact ⟨0, Nat.zero_le _, rfl, HB1.out, HBV1.out, HF1.out⟩
      case round =>
        obtain ⟨i, hi, rfl, hBn, hbv, hF⟩ := hrel
        clear hc0 hcn
        have hc0 : wr.cell? ⟨bg, 0, none⟩ = some (.slice (some ⟨gb, 0, none⟩) m bc) := (hF.at_ HBAG.out).cell 0
        have hcn : wr.cell? ⟨gb, n, none⟩ = some (.slice an ln cn) := by
          rw [← HLN.out, ← HVN.out]
          exact (row_cell hbv n hlt).trans (firstN_at vs m n hlt)
        by_cases hil : i < ln
        · have hown := hBn.own n hlt
          rw [HVN.out, HLN.out] at hown
          obtain ⟨gn, cn', he, hnc⟩ := own_some hown (by omega)
          simp only [Value.slice.injEq] at he
          obtain ⟨rfl, -, rfl⟩ := he
          have hCn : i < (C n).length := by rw [HCL.out n hlt, HLN.out]; exact hil
          have hput := hBn.put hlt (by rw [HVN.out]) hCn
          obtain ⟨k1, k2, k3⟩ := hBn.keep_lists (i := i) hlt (by rw [HVN.out]) (.int .u8 (mkB n i))
          have hce : ∃ x, wr.cell? ⟨gn, i, none⟩ = some x := ⟨_, (World.ownsRow.cellAt hown i (by omega)).trans (List.getElem?_eq_getElem (by rw [hown.1]; omega))⟩
          obtain ⟨x, hce⟩ := hce
          have hfr := World.ownsRow.frozenAt hown i
          have HR : Hid (Bags (wr.setCell ⟨gn, i, none⟩ (.int .u8 (mkB n i))) base 5 1 m vs len (half n (i + 1) len C) ∧ (wr.setCell ⟨gn, i, none⟩ (.int .u8 (mkB n i))).ownsRow base 91 1 (.slice (some ⟨gb, 0, none⟩) m bc) m (firstN vs m) ∧ FrT w (wr.setCell ⟨gn, i, none⟩ (.int .u8 (mkB n i))) base bg T) :=
            Lib.hid ⟨hput, k1.own hbv, hF.cell k2 (k3 _ _ (hF.at_ HBAG.out)) _ (fun e => HTV.out n hlt gn e (by rw [HVN.out]; rfl))⟩
          have hmk : IntKind.u8.wrap (31 * (n : Int) + 7 * (i : Int) + 3) = mkB n i := rfl
          clear hput k1 k2 k3 hown hBn hbv hF hCn
          go_wp2_with fail
          go_roundw
          case rel => exact ⟨i + 1, by omega, by go_num, HR.out⟩
          case measure => simp [intOf]; omega
        · obtain rfl : i = ln := by omega
          have HR : Hid (Bags wr base 5 1 m vs len (half (n + 1) 0 len C)) := Lib.hid (by
            rw [← half_next n len C (HCL.out n hlt), HLN.out]; exact hBn)
          have HBV2 := Lib.hid hbv
          have HF2 := Lib.hid hF
          clear hBn hbv hF
          go_wp2_with fail
          go_roundw
          case rel => exact ⟨n + 1, by omega, by go_num, HR.out, HBV2.out, HF2.out⟩
          case measure => simp [intOf]; omega
    · obtain rfl : n = m := by omega
      have hG0 : Grown wr base 5 1 n mkBs vs len 0 (fun _ => undef) (fun _ => undef) :=
        ⟨⟨fun k hk => by have := hBn.own k hk; rw [half_all n len C k hk] at this; exact this, hBn.ap⟩, fun k hk => absurd hk (Nat.not_lt_zero _), fun k hk => absurd hk (Nat.not_lt_zero _), fun k _ hk => absurd hk (Nat.not_lt_zero _)⟩
      have hL0 : Lst wr base (.slice bb n bc) (.slice none 0 0) (.slice none 0 0) n 0 0 vs (fun _ => undef) (fun _ => undef) :=
        ⟨hbv, World.ownsRow_nil _ _ _ _, World.ownsRow_nil _ _ _ _, fun k h _ => by simp [Value.ownBlock] at h, fun k h _ => by simp [Value.ownBlock] at h, fun k h _ => by simp [Value.ownBlock] at h⟩
      have HG0 := Lib.hid hG0
      have HL0 := Lib.hid hL0
      have HF0 := Lib.hid hF
      clear hG0 hL0 hF hBn hbv hB0 hlt hn
      rename Nat => m
      go_wp2_with fail
      rename World => w1
      go_loopw [5, 6, 7] (fun v5 v6 v7 wr => ∃ (n : Nat) (ones mores : Nat → Value), n ≤ m ∧ v7 = .int .i64 n ∧ Grown wr base 5 1 m mkBs vs len n ones mores ∧ Lst wr base (.slice bb m bc) v5 v6 m n n vs ones mores ∧ FrT w wr base bg T ∧ FarT T v5 ∧ FarT T v6) (fun _ _ v7 _ => m - (intOf v7).toNat)
      case atStart => exact ⟨0, _, _, Nat.zero_le _, rfl, HG0.out, HL0.out, HF0.out, FarT.nil T, FarT.nil T⟩
      case round =>
        obtain ⟨n, ones, mores, hn, rfl, hG, hL, hF, hT5, hT6⟩ := hrel
        clear hc0
        have hc0 : wr.cell? ⟨bg, 0, none⟩ = some (.slice bb m bc) := (hF.at_ HBAG.out).cell 0
        obtain ⟨a5, c5, rfl⟩ := own_shape hL.o
        obtain ⟨a6, c6, rfl⟩ := own_shape hL.m
        by_cases hlt : n < m
        · have hd1 : decide ((n : Int) < (m : Int)) = true := by simp; omega
          obtain ⟨gb, cb, he, hmc⟩ := own_some hL.b (by omega)
          simp only [Value.slice.injEq] at he
          obtain ⟨rfl, -, rfl⟩ := he
          have hcn : wr.cell? ⟨gb, n, none⟩ = some (vs n) := (row_cell hL.b n hlt).trans (firstN_at vs m n hlt)
          obtain ⟨an, cn, hvn⟩ := own_shape (hG.b.own n hlt)
          rw [hvn] at hcn
          have hln := HLEN.out n hlt
          have HVN := Lib.hid hvn
          have HG := Lib.hid hG
          have HL := Lib.hid hL
          have HF := Lib.hid hF
          obtain ⟨ln, hlnn⟩ : ∃ q, len n = q := ⟨_, rfl⟩
          have HLN := Lib.hid hlnn
          rw [hlnn] at hln hcn
          have HT56 := Lib.hid (And.intro hT5 hT6)
          have HT8 := Lib.hid (show FarT T (.slice an ln cn) from by rw [← hlnn, ← hvn]; exact HTV.out n hlt)
          have hst := hG.start (o1 := undef) hlt
          rw [hvn, hlnn] at hst
          have HST := Lib.hid hst
          clear hG hL hF hvn hlnn hst hT5 hT6
          go_wp2_with fail
          rename World => w2
          go_loopw [5, 8, 9] (fun v5 v8 v9 wr => ∃ (i : Nat) (o1 : Value), ln ≤ i ∧ i ≤ ln + 70 ∧ v9 = .int .i64 i ∧ Grows wr base 5 1 m mkBs vs len n ones mores i v8 o1 ∧ Lst wr base (.slice (some ⟨gb, 0, none⟩) m bc) v5 (.slice a6 n c6) m (if ln < i then n + 1 else n) n vs (fun k => if k = n then o1 else ones k) mores ∧ FrT w wr base bg T ∧ FarT T v5 ∧ FarT T v8) (fun _ _ v9 _ => ln + 70 - (intOf v9).toNat)
          case atStart => exact ⟨ln, undef, Nat.le_refl _, by omega, rfl, HST.out, by rw [if_neg (Nat.lt_irrefl _)]; exact HL.out.congr (fun k hk => by rw [if_neg (by omega)]), HF.out, HT56.out.1, HT8.out⟩
          case round =>
            obtain ⟨i, o1, hi0, hi1, rfl, hG, hL, hF, hT5, hT8⟩ := hrel
            have HT58 := Lib.hid (And.intro hT5 hT8)
            clear hT5 hT8
            clear hc0 hcn
            have hc0 : wr.cell? ⟨bg, 0, none⟩ = some (.slice (some ⟨gb, 0, none⟩) m bc) := (hF.at_ HBAG.out).cell 0
            have hcn : wr.cell? ⟨gb, n, none⟩ = some (.slice an ln cn) := by
              rw [← HLN.out, ← HVN.out]
              exact (row_cell hL.b n hlt).trans (firstN_at vs m n hlt)
            obtain ⟨a8, c8, rfl⟩ := own_shape hG.own
            have hmk : IntKind.u8.wrap (31 * (n : Int) + 7 * (i : Int) + 3) = mkB n i := rfl
            have hbs : base ≤ wr.heap.size := Nat.le_trans hbase hF.size
            by_cases hil : i < ln + 70
            · have hd2 : decide ((i : Int) < (ln : Int) + 70) = true := by simp; omega
              have hown := hG.own
              have HG := Lib.hid hG
              have HF := Lib.hid hF
              clear hG hF
              by_cases h0 : i = ln
              · have ht : ((i : Int) == (ln : Int)) = true := by simp; omega
                have hlen0 : i = len n := by rw [HLN.out]; exact h0
                rw [if_neg (by omega)] at hL
                obtain ⟨a5', c5', rfl⟩ := own_shape hL.o
                have HL := Lib.hid hL
                have HLE := Lib.hid hlen0
                clear hL hlen0 h0
                go_wp2_with (at_builtin; refine append_u1 rfl (.tmp 82) (.tmp 90) rfl base _ i _ (mkB n i) rfl hown rfl (by omega) hbs ?_)
                intro v' w3 hown' hold hp
                have hG' := HG.out.step Nat.one_pos hlt (Nat.le_of_eq HLE.out.symm) hown' hold hp
                rw [if_pos HLE.out] at hG'
                have hL' := HL.out.keepT (KeepT.of_app hown hp neUL)
                have hF' := HF.out.app HBAG.out hown neUG hp HT58.out.2
                have HT8' := Lib.hid (HT58.out.2.app HF.out hp)
                obtain ⟨a8', c8', rfl⟩ := own_shape hown'
                have hc0 : w3.cell? ⟨bg, 0, none⟩ = some (.slice (some ⟨gb, 0, none⟩) m bc) := (hF'.at_ HBAG.out).cell 0
                have hcn : w3.cell? ⟨gb, n, none⟩ = some (.slice an ln cn) := by
                  rw [← HLN.out, ← HVN.out]
                  exact (row_cell hL'.b n hlt).trans (firstN_at vs m n hlt)
                have hbs' : base ≤ w3.heap.size := Nat.le_trans hbs hp.size
                have ho5 := hL'.o
                have HG' := Lib.hid hG'
                have HL' := Lib.hid hL'
                have HF' := Lib.hid hF'
                clear hG' hL' hF' hown hown' hold hp hbs
                go_wp2_with (at_builtin; refine append_l1 rfl (.tmp 102) (.tmp 104) rfl base _ n _ _ rfl ho5 rfl rfl (by omega) hbs' ?_)
                intro v5' w4 ho5' hold5 hp5
                have hL2 := HL'.out.one ho5' hp5
                have HL2 := Lib.hid (hL2.congr (ones' := fun k => if k = n then .slice a8' (i + 1) c8' else ones k) (fun k hk => by
                  by_cases e : k = n
                  · rw [if_pos e, if_pos e]
                  · rw [if_neg e, if_neg e, if_neg e]))
                have HG2 := Lib.hid (HG'.out.keepT (KeepT.of_app ho5 hp5 neUL.symm))
                have HF2 := Lib.hid (HF'.out.app HBAG.out ho5 neLG hp5 HT58.out.1)
                have HT5' := Lib.hid (HT58.out.1.app HF'.out hp5)
                obtain ⟨a5'', c5'', rfl⟩ := own_shape ho5'
                clear hL2 ho5 ho5' hold5 hp5 hc0 hcn
                go_wp2_with fail
                go_roundw
                case rel => exact ⟨i + 1, _, by omega, by omega, by go_num, HG2.out, by rw [if_pos (by have := HLE.out; have := HLN.out; omega)]; exact HL2.out, HF2.out, HT5'.out, HT8'.out⟩
                case measure => simp [intOf]; omega
              · have ht : ((i : Int) == (ln : Int)) = false := by simp; omega
                have hlen0 : i ≠ len n := by rw [HLN.out]; exact h0
                have hlen1 : len n ≤ i := by rw [HLN.out]; exact hi0
                rw [if_pos (by omega)] at hL
                obtain ⟨a5', c5', rfl⟩ := own_shape hL.o
                have HL := Lib.hid hL
                have HLE := Lib.hid hlen0
                clear hL hlen0
                go_wp2_with (at_builtin; refine append_u1 rfl (.tmp 82) (.tmp 90) rfl base _ i _ (mkB n i) rfl hown rfl (by omega) hbs ?_)
                intro v' w3 hown' hold hp
                have hG' := HG.out.step Nat.one_pos hlt hlen1 hown' hold hp
                rw [if_neg HLE.out] at hG'
                have hL' := HL.out.keepT (KeepT.of_app hown hp neUL)
                have hF' := HF.out.app HBAG.out hown neUG hp HT58.out.2
                have HT8' := Lib.hid (HT58.out.2.app HF.out hp)
                obtain ⟨a8', c8', rfl⟩ := own_shape hown'
                have hc0 : w3.cell? ⟨bg, 0, none⟩ = some (.slice (some ⟨gb, 0, none⟩) m bc) := (hF'.at_ HBAG.out).cell 0
                have hcn : w3.cell? ⟨gb, n, none⟩ = some (.slice an ln cn) := by
                  rw [← HLN.out, ← HVN.out]
                  exact (row_cell hL'.b n hlt).trans (firstN_at vs m n hlt)
                have HG' := Lib.hid hG'
                have HL' := Lib.hid hL'
                have HF' := Lib.hid hF'
                clear hG' hL' hF' hown hown' hold hp hbs hlen1
                go_wp2_with fail
                go_roundw
                case rel => exact ⟨i + 1, _, by omega, by omega, by go_num, HG'.out, by rw [if_pos (by omega)]; exact HL'.out, HF'.out, HT58.out.1, HT8'.out⟩
                case measure => simp [intOf]; omega
            · obtain rfl : i = ln + 70 := by omega
              rw [if_pos (by omega)] at hL
              obtain ⟨a5', c5', rfl⟩ := own_shape hL.o
              have hd2 : decide (((ln + 70 : Nat) : Int) < (ln : Int) + 70) = false := by simp
              have hGd := (show Grows wr base 5 1 m mkBs vs len n ones mores (len n + 70) (.slice a8 (ln + 70) c8) o1 by rw [HLN.out]; exact hG).done hlt
              have hm6 := hL.m
              have HG := Lib.hid hGd
              have HL := Lib.hid hL
              have HF := Lib.hid hF
              clear hGd hG hL hF hil hi1
              go_wp2_with (at_builtin; refine append_l1 rfl (.tmp 106) (.tmp 108) rfl base _ n _ _ rfl hm6 rfl rfl (by omega) hbs ?_)
              intro v6' w3 ho6' hold6 hp6
              have HL2 := Lib.hid (HL.out.more ho6' hp6)
              have HG2 := Lib.hid (HG.out.keepT (KeepT.of_app hm6 hp6 neUL.symm))
              have HF2 := Lib.hid (HF.out.app HBAG.out hm6 neLG hp6 HT56.out.2)
              have HT6' := Lib.hid (HT56.out.2.app HF.out hp6)
              obtain ⟨a6', c6', rfl⟩ := own_shape ho6'
              clear ho6' hold6 hp6 hm6 hc0 hcn
              go_wp2_with fail
              go_roundw
              case rel => exact ⟨n + 1, _, _, by omega, by go_num, HG2.out, HL2.out, HF2.out, HT58.out.1, HT6'.out⟩
              case measure => simp [intOf]; omega
        · obtain rfl : n = m := by omega
          have HG := Lib.hid hG
          have HL := Lib.hid hL
          have HF := Lib.hid hF
          clear hG hL hF hlt hn
          go_wp2_with fail
          go_loop [10] (fun v => ∃ k : Nat, k ≤ n ∧ v = .int .i64 k) (fun v => n - (intOf v).toNat)
          case atStart => exact ⟨0, Nat.zero_le _, rfl⟩
          case round =>
            obtain ⟨k, hk, rfl⟩ := hrel
            by_cases hlt : k < n
            · have hd1 : decide ((k : Int) < (n : Int)) = true := by simp; omega
              obtain ⟨gb, cb, he, hbc⟩ := own_some HL.out.b (by omega)
              simp only [Value.slice.injEq] at he
              obtain ⟨rfl, -, rfl⟩ := he
              obtain ⟨g5, cb, he, h5c⟩ := own_some HL.out.o (by omega)
              simp only [Value.slice.injEq] at he
              obtain ⟨rfl, -, rfl⟩ := he
              obtain ⟨g6, cb, he, h6c⟩ := own_some HL.out.m (by omega)
              simp only [Value.slice.injEq] at he
              obtain ⟨rfl, -, rfl⟩ := he
              have hcb : wr.cell? ⟨gb, k, none⟩ = some (vs k) := (row_cell HL.out.b k hlt).trans (firstN_at vs n k hlt)
              have hc5 : wr.cell? ⟨g5, k, none⟩ = some (ones k) := (row_cell HL.out.o k hlt).trans (firstN_at ones n k hlt)
              have hc6 : wr.cell? ⟨g6, k, none⟩ = some (mores k) := (row_cell HL.out.m k hlt).trans (firstN_at mores n k hlt)
              have hov := HG.out.b.own k hlt
              have hoo := HG.out.one k hlt
              have hom := HG.out.more k hlt
              obtain ⟨av, cv, hv⟩ := own_shape hov
              obtain ⟨go1, co, ho, hoc⟩ := own_some hoo (by omega)
              obtain ⟨gm, cm, hmm, hmc⟩ := own_some hom (by omega)
              rw [hv] at hcb hov
              rw [ho] at hc5 hoo
              rw [hmm] at hc6 hom
              have hln := HLEN.out k hlt
              generalize len k = lk at hcb hov hc5 hoo hc6 hom hln hoc hmc
              have HOV := Lib.hid hov
              have HOO := Lib.hid hoo
              have HOM := Lib.hid hom
              clear hov hoo hom hv ho hmm
              go_wp2_with fail
              go_loop [11] (fun v => ∃ i : Nat, i ≤ lk + 70 ∧ v = .int .i64 i) (fun v => lk + 70 - (intOf v).toNat)
              case atStart => exact ⟨0, Nat.zero_le _, rfl⟩
              case round =>
                obtain ⟨i, hi, rfl⟩ := hrel
                have hmk : IntKind.u8.wrap (31 * (k : Int) + 7 * (i : Int) + 3) = mkB k i := rfl
                by_cases hil : i < lk + 70
                · have hxm : wr.cell? ⟨gm, i, none⟩ = some (.int .u8 (mkB k i)) := (row_cell HOM.out i hil).trans (mkB_at k _ i hil)
                  have hd2 : decide ((i : Int) < ((lk + 70 : Nat) : Int)) = true := by simp; omega
                  by_cases h1 : i < lk
                  · obtain ⟨gv, cb, he, hvc⟩ := own_some HOV.out (by omega)
                    simp only [Value.slice.injEq] at he
                    obtain ⟨rfl, -, rfl⟩ := he
                    have hxv : wr.cell? ⟨gv, i, none⟩ = some (.int .u8 (mkB k i)) := (row_cell HOV.out i h1).trans (mkB_at k _ i h1)
                    have hd3 : decide ((i : Int) < (lk : Int)) = true := by simp; omega
                    have hd4 : ((i : Int) == (lk : Int)) = false := by simp; omega
                    go_wp2_with fail
                    go_round
                    case rel => exact ⟨i + 1, by omega, by go_num⟩
                    case measure => simp [intOf]; omega
                  · have hd3 : decide ((i : Int) < (lk : Int)) = false := by simp; omega
                    by_cases h2 : i = lk
                    · have hxo : wr.cell? ⟨go1, i, none⟩ = some (.int .u8 (mkB k i)) := (row_cell HOO.out i (by omega)).trans (mkB_at k _ i (by omega))
                      have hd4 : ((i : Int) == (lk : Int)) = true := by simp; omega
                      have h2' : i ≤ lk := by omega
                      clear h2
                      go_wp2_with fail
                      go_round
                      case rel => exact ⟨i + 1, by omega, by go_num⟩
                      case measure => simp [intOf]; omega
                    · have hd4 : ((i : Int) == (lk : Int)) = false := by simp; omega
                      go_wp2_with fail
                      go_round
                      case rel => exact ⟨i + 1, by omega, by go_num⟩
                      case measure => simp [intOf]; omega
                · obtain rfl : i = lk + 70 := by omega
                  have hd2 : decide (((lk + 70 : Nat) : Int) < ((lk + 70 : Nat) : Int)) = false := by simp
                  go_wp2_with fail
                  go_round
                  case rel => exact ⟨k + 1, by omega, by go_num⟩
                  case measure => simp [intOf]; omega
            · obtain rfl : k = n := by omega
              go_wp2_with fail
              go_ret
              exact ⟨rfl, HF.out⟩
theorem apartBytes_any (w : World) (base bg m : Nat) (bv : Value) (rest : List Value) (vs : Nat → Value) (len : Nat → Nat) (C : Nat → List Value) (hbag : BagAt w bg (bv :: rest)) (hbv : w.ownsRow base 91 1 bv m (firstN vs m)) (hm : m ≤ 400) (hB : Bags w base 5 1 m vs len C)
    (hlen : ∀ k, k < m → len k ≤ 140737488351232) (hbase : base ≤ w.heap.size) :
    Calls Tryd.prog 43 #[.pointer (some ⟨bg, 0, none⟩)] w fun e w' => e = .returned (.bool true) ∧ Fr w w' base bg :=
  (apartBytes_T (fun _ => False) w base bg m bv rest vs len C hbag hbv hm hB hlen hbase (fun _ h => h.elim) (fun _ _ _ h => h.elim)).mono fun _ _ ⟨e, h⟩ => ⟨e, h.fr⟩
end Go.Proofs.YthegepiafodpjaaDoor

namespace Go.Proofs.YthegepiafodpjaaDoor
open Go.RowKit

/-- The heads of the other lists: none was gathered. -/
def noneB : List Value := List.replicate 18 (.slice none 0 0)
theorem noneB_at (i : Nat) (h : i < 18) : noneB[i]? = some (.slice none 0 0) := by unfold noneB; rw [List.getElem?_replicate, if_pos h]

set_option maxRecDepth 100000 in
set_option maxHeartbeats 1000000 in
theorem apart_T (T : Nat → Prop) (w : World) (base bg m : Nat) (bv : Value) (vs : Nat → Value) (len : Nat → Nat) (C : Nat → List Value) (hbag : BagAt w bg (bv :: noneB)) (hbv : w.ownsRow base 91 1 bv m (firstN vs m)) (hm : m ≤ 400) (hB : Bags w base 5 1 m vs len C)
    (hlen : ∀ k, k < m → len k ≤ 140737488351232) (hbase : base ≤ w.heap.size) (hT : ∀ k, T k → k < w.heap.size) (hTV : ∀ j, j < m → FarT T (vs j)) :
    Calls Tryd.prog 19 #[.pointer (some ⟨bg, 0, none⟩)] w fun e w' => e = .returned (.bool true) ∧ FrT w w' base bg T := by
  have HA := Lib.hid (apartBytes_T T w base bg m bv noneB vs len C hbag hbv hm hB hlen hbase hT hTV)
  have HBAG := Lib.hid hbag
  clear hbag hbv hB hlen
  go_enter Tryd.func19, Tryd.ntmps19
  go_wp2_with fail
  refine HA.out.mono ?_
  rintro e w1 ⟨rfl, hF⟩
  have HF := Lib.hid hF
  have HN : ∀ i : Nat, i < 18 → w1.cell? ⟨bg, i + 1, none⟩ = some (.slice none 0 0) := fun i hi => ((hF.at_ HBAG.out).cell (i + 1)).trans (noneB_at i hi)
  have HN := Lib.hid HN
  clear hF HA
  go_wp2_with fail
  refine (apartInts_nil w1 bg (HN.out 0 (by omega))).mono ?_
  rintro e w' ⟨rfl, rfl⟩
  go_wp2_with fail
  refine (apartBools_nil w1 bg (HN.out 1 (by omega))).mono ?_
  rintro e w' ⟨rfl, rfl⟩
  go_wp2_with fail
  refine (apartTexts_nil w1 bg (HN.out 2 (by omega))).mono ?_
  rintro e w' ⟨rfl, rfl⟩
  go_wp2_with fail
  refine (apartMarks_nil w1 bg (HN.out 3 (by omega))).mono ?_
  rintro e w' ⟨rfl, rfl⟩
  go_wp2_with fail
  refine (apartSpans_nil w1 bg (HN.out 4 (by omega))).mono ?_
  rintro e w' ⟨rfl, rfl⟩
  go_wp2_with fail
  refine (apartRuns_nil w1 bg (HN.out 5 (by omega))).mono ?_
  rintro e w' ⟨rfl, rfl⟩
  go_wp2_with fail
  refine (apartClasses_nil w1 bg (HN.out 6 (by omega))).mono ?_
  rintro e w' ⟨rfl, rfl⟩
  go_wp2_with fail
  refine (apartNodes_nil w1 bg (HN.out 7 (by omega))).mono ?_
  rintro e w' ⟨rfl, rfl⟩
  go_wp2_with fail
  refine (apartInstrs_nil w1 bg (HN.out 8 (by omega))).mono ?_
  rintro e w' ⟨rfl, rfl⟩
  go_wp2_with fail
  refine (apartFaults_nil w1 bg (HN.out 9 (by omega))).mono ?_
  rintro e w' ⟨rfl, rfl⟩
  go_wp2_with fail
  refine (apartNotes_nil w1 bg (HN.out 10 (by omega))).mono ?_
  rintro e w' ⟨rfl, rfl⟩
  go_wp2_with fail
  refine (apartParts_nil w1 bg (HN.out 11 (by omega))).mono ?_
  rintro e w' ⟨rfl, rfl⟩
  go_wp2_with fail
  refine (apartRows_nil w1 bg (HN.out 12 (by omega))).mono ?_
  rintro e w' ⟨rfl, rfl⟩
  go_wp2_with fail
  refine (apartIntss_nil w1 bg (HN.out 13 (by omega))).mono ?_
  rintro e w' ⟨rfl, rfl⟩
  go_wp2_with fail
  refine (apartSpanss_nil w1 bg (HN.out 14 (by omega))).mono ?_
  rintro e w' ⟨rfl, rfl⟩
  go_wp2_with fail
  refine (apartPieces_nil w1 bg (HN.out 15 (by omega))).mono ?_
  rintro e w' ⟨rfl, rfl⟩
  go_wp2_with fail
  refine (apartFiles_nil w1 bg (HN.out 16 (by omega))).mono ?_
  rintro e w' ⟨rfl, rfl⟩
  go_wp2_with fail
  refine (apartCmds_nil w1 bg (HN.out 17 (by omega))).mono ?_
  rintro e w' ⟨rfl, rfl⟩
  go_wp2_with fail
  go_ret
  exact ⟨rfl, HF.out⟩
theorem apart_any (w : World) (base bg m : Nat) (bv : Value) (vs : Nat → Value) (len : Nat → Nat) (C : Nat → List Value) (hbag : BagAt w bg (bv :: noneB)) (hbv : w.ownsRow base 91 1 bv m (firstN vs m)) (hm : m ≤ 400) (hB : Bags w base 5 1 m vs len C)
    (hlen : ∀ k, k < m → len k ≤ 140737488351232) (hbase : base ≤ w.heap.size) :
    Calls Tryd.prog 19 #[.pointer (some ⟨bg, 0, none⟩)] w fun e w' => e = .returned (.bool true) ∧ Fr w w' base bg :=
  (apart_T (fun _ => False) w base bg m bv vs len C hbag hbv hm hB hlen hbase (fun _ h => h.elim) (fun _ _ _ h => h.elim)).mono fun _ _ ⟨e, h⟩ => ⟨e, h.fr⟩
end Go.Proofs.YthegepiafodpjaaDoor

namespace Go.Proofs.YthegepiafodpjaaDoor
open Go.RowKit

def pick4 {α : Type} (a b c d : α) : Nat → α
  | 0 => a
  | 1 => b
  | 2 => c
  | _ => d
theorem lt4 {k : Nat} (h : k < 4) : k = 0 ∨ k = 1 ∨ k = 2 ∨ k = 3 := by omega
theorem bags4 {w : World} {base : Nat} {u0 u1 u2 u3 : Value} {l0 l1 l2 l3 : List Int} (h0 : OwnB w base u0 l0) (h1 : OwnB w base u1 l1) (h2 : OwnB w base u2 l2) (h3 : OwnB w base u3 l3)
    (a01 : Apart u0 u1) (a02 : Apart u0 u2) (a03 : Apart u0 u3) (a12 : Apart u1 u2) (a13 : Apart u1 u3) (a23 : Apart u2 u3) :
    Bags w base 5 1 4 (pick4 u0 u1 u2 u3) (pick4 l0.length l1.length l2.length l3.length) (pick4 (l0.map (Value.int .u8)) (l1.map (Value.int .u8)) (l2.map (Value.int .u8)) (l3.map (Value.int .u8))) := by
  refine ⟨fun k hk => ?_, fun j k hj hk hne => ?_⟩
  · rcases lt4 hk with rfl | rfl | rfl | rfl
    · exact h0
    · exact h1
    · exact h2
    · exact h3
  · rcases lt4 hj with rfl | rfl | rfl | rfl <;> rcases lt4 hk with rfl | rfl | rfl | rfl <;> first
      | exact absurd rfl hne
      | exact a01
      | exact a02
      | exact a03
      | exact a12
      | exact a13
      | exact a23
      | exact a01.symm
      | exact a02.symm
      | exact a03.symm
      | exact a12.symm
      | exact a13.symm
      | exact a23.symm
theorem first4 (a b c d : Value) : firstN (pick4 a b c d) 4 = [a, b, c, d] := rfl

/-- Lists in blocks that lie one behind the other are apart. -/
theorem apart_lt {w : World} {base : Nat} {u v : Value} {l : List Int} (h : OwnB w base v l) (hu : ∀ k, u.ownBlock = some k → k < base) : Apart u v := fun k h1 h2 => by
  have := (World.ownsRow.lt h k h2).1
  have := hu k h1
  omega
theorem OwnB.top {w : World} {base : Nat} {v : Value} {l : List Int} (h : OwnB w base v l) {B : Nat} (hB : w.heap.size ≤ B) : ∀ k, v.ownBlock = some k → k < B := fun k hk => by
  have := (World.ownsRow.lt h k hk).2
  omega
/-- A list at the head of a whole row. -/
theorem Arr.own {w : World} {g base n m : Nat} {l : List Int} (h : Arr w g 5 l) (hb : base ≤ g) (hl : l.length = m) (hm : m ≤ maxLen) (hn : n ≤ m) : OwnB w base (.slice (some ⟨g, 0, none⟩) n m) (l.take n) := by
  have hlen : (l.take n).length = n := by rw [List.length_take]; omega
  unfold OwnB
  rw [hlen]
  refine ⟨by simp; omega, .inr ⟨g, m, row l, rfl, hb, h, hn, hm, by rw [row_size, hl, Nat.mul_one], ?_⟩⟩
  simp [row, List.map_take]

/-- An empty bag, just laid. -/
theorem BagAt.new (w : World) : BagAt (w.alloc (.cells (Value.slice none 0 0 :: noneB).toArray 59)) w.heap.size (.slice none 0 0 :: noneB) := heap_alloc_new w _
theorem bits8 {c : Int} (hc : ∀ n : Fin 256, 0 ≤ bits .xor .u8 (n.1 : Int) c ∧ bits .xor .u8 (n.1 : Int) c ≤ 255) (x : Int) (h0 : 0 ≤ x) (h1 : x ≤ 255) : 0 ≤ bits .xor .u8 x c ∧ bits .xor .u8 x c ≤ 255 := by
  have h := hc ⟨x.toNat, by omega⟩
  simp only [Int.toNat_of_nonneg h0] at h
  exact h
theorem isB_set {l : List Int} (h : IsB l) (i : Nat) (x : Int) (h0 : 0 ≤ x) (h1 : x ≤ 255) : IsB (l.set i x) := fun j => by
  rw [List.getElem?_set]
  split
  · split
    · simp; omega
    · simp
  · exact h j
theorem OwnB.store {w : World} {base g n cap : Nat} {l : List Int} (h : OwnB w base (.slice (some ⟨g, 0, none⟩) n cap) l) (i : Nat) (x : Int) : OwnB (w.setCell ⟨g, i, none⟩ (.int .u8 x)) base (.slice (some ⟨g, 0, none⟩) n cap) (l.set i x) := by
  obtain rfl := own_len h
  have := (World.ownsRow.stored h i (.int .u8 x)).1
  unfold OwnB
  rw [List.length_set, List.map_set]
  exact this
theorem OwnB.cellAt {w : World} {base g n cap : Nat} {l : List Int} (h : OwnB w base (.slice (some ⟨g, 0, none⟩) n cap) l) (i : Nat) (hi : i < n) : w.cell? ⟨g, i, none⟩ = some (.int .u8 (l[i]?.getD 0)) ∧ w.frozen? ⟨g, i, none⟩ = false := by
  obtain rfl := own_len h
  refine ⟨(World.ownsRow.cellAt h i (by omega)).trans ?_, World.ownsRow.frozenAt h i⟩
  rw [List.getElem?_map, List.getElem?_eq_getElem hi]
  simp
theorem OwnB.some_ {w : World} {base : Nat} {v : Value} {l : List Int} (h : OwnB w base v l) (hn : 0 < l.length) : ∃ g cap, v = .slice (some ⟨g, 0, none⟩) l.length cap ∧ l.length ≤ cap ∧ base ≤ g ∧ g < w.heap.size := by
  rcases h.2 with ⟨_, h0⟩ | ⟨g, cap, cur, rfl, hb, hg, hc, _⟩
  · omega
  · exact ⟨g, cap, rfl, hc, hb, (Array.getElem?_eq_some_iff.1 hg).1⟩
/-- A store into another block. -/
theorem OwnB.far_store {w : World} {base g i : Nat} {v : Value} {l : List Int} (h : OwnB w base v l) (hne : v.ownBlock ≠ some g) (u : Value) : OwnB (w.setCell ⟨g, i, none⟩ u) base v l := ownsRow_setCell_other h hne u
end Go.Proofs.YthegepiafodpjaaDoor

namespace Go.Proofs.YthegepiafodpjaaDoor
open Go.RowKit

/-- A call at what lies in the blocks F, which lies in the blocks F' behind it. -/
structure Up (w w' : World) (base : Nat) (F F' : Nat → Prop) : Prop where
  keep : ∀ k, k < w.heap.size → ¬ F k → w'.heap[k]? = w.heap[k]?
  new : ∀ k, F' k → F k ∨ w.heap.size ≤ k
  bel : ∀ B w0, Below B w0 w → B ≤ base → Below B w0 w'
  size : w.heap.size ≤ w'.heap.size
section
variable {w w1 w2 : World} {base : Nat} {F F1 F2 G H : Nat → Prop}
theorem Up.refl (w : World) (base : Nat) (F : Nat → Prop) : Up w w base F F := ⟨fun _ _ _ => rfl, fun _ h => .inl h, fun _ _ h _ => h, Nat.le_refl _⟩
theorem Up.below (F : Nat → Prop) (hb : Below w.heap.size w w1) (hs : base ≤ w.heap.size) : Up w w1 base F F :=
  ⟨fun k hk _ => hb.block k hk, fun _ h => .inl h, fun _ _ h hB => h.trans (hb.mono (Nat.le_trans hB hs)), hb.size⟩
theorem Up.trans (h : Up w w1 base F F1) (k : Up w1 w2 base F1 F2) : Up w w2 base F F2 :=
  ⟨fun i hi hn => (k.keep i (Nat.lt_of_lt_of_le hi h.size) fun h1 => by
      rcases h.new i h1 with e | e
      · exact hn e
      · omega).trans (h.keep i hi hn),
   fun i hi => by
      rcases k.new i hi with e | e
      · exact h.new i e
      · have := h.size; right; omega,
   fun B w0 hb hB => k.bel B w0 (h.bel B w0 hb hB) hB, Nat.le_trans h.size k.size⟩
/-- The call may be told to touch more. -/
theorem Up.more (h : Up w w1 base F F1) (hG : ∀ k, F k → G k) (hH : ∀ k, H k → F1 k ∨ G k) : Up w w1 base G H :=
  ⟨fun k hk hn => h.keep k hk fun e => hn (hG k e), fun k hk => by
    rcases hH k hk with e | e
    · exact (h.new k e).imp_left (hG k)
    · exact .inl e, h.bel, h.size⟩
/-- Blocks of another object stay, and stay apart. -/
theorem Up.apart (h : Up w w1 base F F1) (hG : ∀ k, G k → k < w.heap.size) (hd : ∀ k, F k → ¬ G k) : (∀ k, G k → w1.heap[k]? = w.heap[k]?) ∧ ∀ k, F1 k → ¬ G k :=
  ⟨fun k hk => h.keep k (hG k hk) fun e => hd k e hk, fun k h1 h2 => by
    rcases h.new k h1 with e | e
    · exact hd k e h2
    · have := hG k h2; omega⟩
end
theorem own_blk {W W' : World} {base s n : Nat} {e : TypeId} {v : Value} {xs : List Value} (h : W.ownsRow base e s v n xs) (hk : ∀ k, v.ownBlock = some k → W'.heap[k]? = W.heap[k]?) : W'.ownsRow base e s v n xs :=
  ⟨h.1, h.2.imp_right fun ⟨g, cap, cur, ev, hb, hg, r⟩ => ⟨g, cap, cur, ev, hb, (hk g (by rw [ev]; rfl)).trans hg, r⟩⟩
end Go.Proofs.YthegepiafodpjaaDoor

namespace Go.Proofs.YthegepiafodpjaaDoor
open Go.RowKit

def snoc {α : Type} (f : Nat → α) (m : Nat) (v : α) (k : Nat) : α := if k = m then v else f k
theorem snoc_same {α : Type} (f : Nat → α) (m : Nat) (v : α) : snoc f m v m = v := by simp [snoc]
theorem snoc_lt {α : Type} (f : Nat → α) {m k : Nat} (v : α) (h : k < m) : snoc f m v k = f k := by simp [snoc, Nat.ne_of_lt h]

/-- m lists of bytes lie in the bag. -/
structure GI (w : World) (base bg m : Nat) (bv : Value) (vs : Nat → Value) (len : Nat → Nat) (C : Nat → List Value) : Prop where
  bag : BagAt w bg (bv :: noneB)
  own : w.ownsRow base 91 1 bv m (firstN vs m)
  b : Bags w base 5 1 m vs len C
  lim : ∀ k, k < m → len k ≤ 140737488351232
  lo : base ≤ bg
/-- The blocks of a bag and of its lists. -/
def GF (bg m : Nat) (bv : Value) (vs : Nat → Value) (k : Nat) : Prop := k = bg ∨ bv.ownBlock = some k ∨ ∃ j, j < m ∧ (vs j).ownBlock = some k
section
variable {w w' : World} {base bg m : Nat} {bv v : Value} {vs : Nat → Value} {len : Nat → Nat} {C : Nat → List Value} {l : List Int}
theorem GI.lt (g : GI w base bg m bv vs len C) : ∀ k, GF bg m bv vs k → k < w.heap.size := fun k hk => by
  rcases hk with rfl | e | ⟨j, hj, e⟩
  · exact g.bag.lt
  · exact (World.ownsRow.lt g.own k e).2
  · exact (World.ownsRow.lt (g.b.own j hj) k e).2
theorem GI.keep (g : GI w base bg m bv vs len C) (hk : ∀ k, GF bg m bv vs k → w'.heap[k]? = w.heap[k]?) : GI w' base bg m bv vs len C :=
  { g with
    bag := (hk bg (.inl rfl)).trans g.bag
    own := own_blk g.own fun k e => hk k (.inr (.inl e))
    b := ⟨fun j hj => own_blk (g.b.own j hj) fun k e => hk k (.inr (.inr ⟨j, hj, e⟩)), g.b.ap⟩ }
theorem GI.below (g : GI w base bg m bv vs len C) (hb : Below w.heap.size w w') : GI w' base bg m bv vs len C := g.keep fun k hk => hb.block k (g.lt k hk)
theorem GI.new (w : World) (base : Nat) (hb : base ≤ w.heap.size) (vs : Nat → Value) (len : Nat → Nat) (C : Nat → List Value) : GI (w.alloc (.cells (Value.slice none 0 0 :: noneB).toArray 59)) base w.heap.size 0 (.slice none 0 0) vs len C :=
  ⟨BagAt.new w, World.ownsRow_nil _ _ _ _, ⟨fun _ h => absurd h (Nat.not_lt_zero _), fun _ _ _ h => absurd h (Nat.not_lt_zero _)⟩, fun _ h => absurd h (Nat.not_lt_zero _), hb⟩

/-- What AddBytes leaves, with the bag's lists in view. -/
def AddGPost (w : World) (base bg m : Nat) (bv : Value) (vs : Nat → Value) (len : Nat → Nat) (C : Nat → List Value) (v : Value) (l : List Int) (e : Ending) (w' : World) : Prop :=
  e = .returned undef ∧ ∃ bv', GI w' base bg (m + 1) bv' (snoc vs m v) (snoc len m l.length) (snoc C m (l.map (Value.int .u8))) ∧
    (∀ k, k < w.heap.size → ¬ GF bg m bv vs k → w'.heap[k]? = w.heap[k]?) ∧ (∀ k, GF bg (m + 1) bv' (snoc vs m v) k → GF bg m bv vs k ∨ v.ownBlock = some k ∨ w.heap.size ≤ k) ∧
    (∀ B w0, Below B w0 w → B ≤ base → Below B w0 w') ∧ w.heap.size ≤ w'.heap.size
theorem apartG (T : Nat → Prop) (g : GI w base bg m bv vs len C) (hs : base ≤ w.heap.size) (hm : m ≤ 400) (hT : ∀ k, T k → k < w.heap.size) (hd : ∀ k, GF bg m bv vs k → ¬ T k) :
    Calls Tryd.prog 19 #[.pointer (some ⟨bg, 0, none⟩)] w fun e w' => e = .returned (.bool true) ∧ FrT w w' base bg T :=
  apart_T T w base bg m bv vs len C g.bag g.own hm g.b g.lim hs hT fun j hj k hk e => hd k (.inr (.inr ⟨j, hj, e⟩)) hk
end
end Go.Proofs.YthegepiafodpjaaDoor

namespace Go.Proofs.YthegepiafodpjaaDoor
open Go.RowKit

/-- append(list, y): one more list, in a list of lists of any type. -/
theorem append_lg {ops : Array Oper} {rest : List Oper} {o : Oper} {a : Act} {w : World} {Q : Exit → Act → World → Prop} (hgd : o.guard = none) (s x : Operand) (t e : TypeId)
    (ho : o.op = .call { callee := .builtin .append, args := #[s, x], argTypes := #[t, t] }) (ht : Tryd.prog.underlying t = some (.slice e)) (hinfo : (Tryd.prog.info? e).map (fun i => (i.zero, i.size, i.bytes)) = some (some (.slice none 0 0), 1, 24))
    (base : Nat) (v : Value) (n : Nat) (us : List Value) (y : Value) (hs : a.eval s = v) (hown : w.ownsRow base e 1 v n us) (hx : a.eval x = .slice (some ⟨w.heap.size, 0, none⟩) 1 1) (hy : y.oneCell' = true) (hsum : n + 1 ≤ 5864062014805) (hbase : base ≤ w.heap.size)
    (h : ∀ v' w', w'.ownsRow base e 1 v' (n + 1) (us ++ [y]) → w'.ownsRow base e 1 v n us → AppPost w w' base v v' → wpList Tryd.prog ops Q rest (a.put o.dst v') w') :
    wpList Tryd.prog ops Q (o :: rest) a (w.alloc (.cells #[y] e)) := by
  obtain ⟨i0, hi, hz0, hz1, hz2⟩ := info_parts hinfo
  exact append_new hgd s x t e i0 (.slice none 0 0) 1 24 ho ht hi hz0 hz1 hz2 rfl (by decide) base v n us hs hown 1 [y] #[y] rfl rfl (fun u hu => by simp at hu; subst hu; exact hy) hx (by unfold maxLen; omega) (by omega) hbase h
/-- append(l, x): one more element of two cells. -/
theorem append_2g {ops : Array Oper} {rest : List Oper} {o : Oper} {a : Act} {w : World} {Q : Exit → Act → World → Prop} (hgd : o.guard = none) (s x : Operand) (t e : TypeId) (z0 z1 : Value) (by_ : Nat)
    (ho : o.op = .call { callee := .builtin .append, args := #[s, x], argTypes := #[t, t] }) (ht : Tryd.prog.underlying t = some (.slice e)) (hinfo : (Tryd.prog.info? e).map (fun i => (i.zero, i.size, i.bytes)) = some (some (.agg #[z0, z1]), 2, by_))
    (base : Nat) (v : Value) (n : Nat) (us : List Value) (y z : Value) (hs : a.eval s = v) (hown : w.ownsRow base e 2 v n us) (hx : a.eval x = .slice (some ⟨w.heap.size, 0, none⟩) 1 1) (hy : y.oneCell' = true ∧ z.oneCell' = true) (hsum : (n + 1) * by_ ≤ 140737488355328) (hsum2 : n + 1 ≤ 140737488355328) (hbase : base ≤ w.heap.size)
    (h : ∀ v' w', w'.ownsRow base e 2 v' (n + 1) (us ++ [y, z]) → w'.ownsRow base e 2 v n us → AppPost w w' base v v' → wpList Tryd.prog ops Q rest (a.put o.dst v') w') :
    wpList Tryd.prog ops Q (o :: rest) a (w.alloc (.cells #[y, z] e)) := by
  obtain ⟨i0, hi, hz0, hz1, hz2⟩ := info_parts hinfo
  exact append_new hgd s x t e i0 (.agg #[z0, z1]) 2 by_ ho ht hi hz0 hz1 hz2 rfl (by decide) base v n us hs hown 1 [y, z] #[y, z] rfl rfl (fun u hu => by
    simp only [List.mem_cons, List.not_mem_nil, or_false] at hu
    rcases hu with rfl | rfl
    · exact hy.1
    · exact hy.2) hx (by unfold maxLen; omega) (by omega) hbase h

/-! ### What the three lists of lists hold -/
structure LstG (T : TypeId) (w : World) (base : Nat) (bv ov mv : Value) (m p q : Nat) (vs ones mores : Nat → Value) : Prop where
  b : w.ownsRow base T 1 bv m (firstN vs m)
  o : w.ownsRow base T 1 ov p (firstN ones p)
  m : w.ownsRow base T 1 mv q (firstN mores q)
  bo : Apart ov bv
  bm : Apart mv bv
  om : Apart ov mv
section
variable {T : TypeId} {w w' : World} {base : Nat} {bv ov mv ov' mv' l : Value} {m p q : Nat} {vs ones mores : Nat → Value}
theorem LstG.keepT (h : LstG T w base bv ov mv m p q vs ones mores) (hk : KeepT T w w') : LstG T w' base bv ov mv m p q vs ones mores := { h with b := hk.own h.b, o := hk.own h.o, m := hk.own h.m }
theorem LstG.congr {ones' : Nat → Value} (h : LstG T w base bv ov mv m p q vs ones mores) (he : ∀ k, k < p → ones k = ones' k) : LstG T w base bv ov mv m p q vs ones' mores := { h with o := by rw [← firstN_congr he]; exact h.o }
theorem LstG.one (h : LstG T w base bv ov mv m p q vs ones mores) (ho : w'.ownsRow base T 1 ov' (p + 1) (firstN ones p ++ [l])) (hp : AppPost w w' base ov ov') : LstG T w' base bv ov' mv m (p + 1) q vs (fun k => if k = p then l else ones k) mores := by
  have h1 := hp.other base _ _ _ bv _ h.b h.bo
  have h2 := hp.other base _ _ _ mv _ h.m h.om
  exact ⟨h1.1, by rw [← firstN_snoc]; exact ho, h2.1, h1.2, h.bm, h2.2⟩
theorem LstG.more (h : LstG T w base bv ov mv m p q vs ones mores) (ho : w'.ownsRow base T 1 mv' (q + 1) (firstN mores q ++ [l])) (hp : AppPost w w' base mv mv') : LstG T w' base bv ov mv' m p (q + 1) vs ones (fun k => if k = q then l else mores k) := by
  have h1 := hp.other base _ _ _ bv _ h.b h.bm
  have h2 := hp.other base _ _ _ ov _ h.o h.om.symm
  exact ⟨h1.1, h2.1, by rw [← firstN_snoc]; exact ho, h.bo, h1.2, h2.2.symm⟩
end

/-! ### Lists of elements of two cells, written over place by place -/
section
variable (mk : Nat → Nat → List Value)
def half2 (n i : Nat) (len : Nat → Nat) (C : Nat → List Value) (k : Nat) : List Value := if k < n then marks mk k (len k) else if k = n then marks mk n i ++ (C n).drop (i * 2) else C k
theorem half2_next (n : Nat) (len : Nat → Nat) (C : Nat → List Value) (hl : (C n).length = len n * 2) : half2 mk n (len n) len C = half2 mk (n + 1) 0 len C := by
  funext k
  unfold half2
  by_cases h1 : k < n
  · rw [if_pos h1, if_pos (by omega)]
  · rw [if_neg h1]
    by_cases e : k = n
    · subst e
      rw [if_pos rfl, if_pos (by omega), List.drop_eq_nil_of_le (by omega), List.append_nil]
    · rw [if_neg e, if_neg (by omega)]
      by_cases e2 : k = n + 1
      · subst e2; rw [if_pos rfl]; rfl
      · rw [if_neg e2]
theorem half2_zero (len : Nat → Nat) (C : Nat → List Value) : half2 mk 0 0 len C = C := by
  funext k
  unfold half2
  rw [if_neg (Nat.not_lt_zero k)]
  by_cases e : k = 0
  · subst e; rw [if_pos rfl]; rfl
  · rw [if_neg e]
theorem half2_all (m : Nat) (len : Nat → Nat) (C : Nat → List Value) (k : Nat) (h : k < m) : half2 mk m 0 len C k = marks mk k (len k) := by unfold half2; rw [if_pos h]
theorem set_two2 (a b : List Value) (x y u v : Value) : ((a ++ x :: y :: b).set a.length u).set (a.length + 1) v = a ++ u :: v :: b := by
  rw [List.set_append_right _ _ (Nat.le_refl _), Nat.sub_self, List.set_append_right _ _ (by omega), Nat.add_sub_cancel_left]
  rfl
theorem half2_set (hmk : ∀ k i, (mk k i).length = 2) (n i : Nat) (len : Nat → Nat) (C : Nat → List Value) (u v : Value) (hi : i < len n) (hl : (C n).length = len n * 2) (hm : mk n i = [u, v]) : ((half2 mk n i len C n).set (i * 2) u).set (i * 2 + 1) v = half2 mk n (i + 1) len C n := by
  unfold half2
  rw [if_neg (Nat.lt_irrefl n), if_pos rfl, if_neg (Nat.lt_irrefl n), if_pos rfl, marks_succ, hm]
  have h1 : (marks mk n i).length = i * 2 := marks_len _ hmk n i
  obtain ⟨x, y, hd⟩ : ∃ x y, (C n).drop (i * 2) = x :: y :: (C n).drop ((i + 1) * 2) :=
    ⟨(C n)[i * 2]'(by omega), (C n)[i * 2 + 1]'(by omega), by rw [List.drop_eq_getElem_cons (by omega), List.drop_eq_getElem_cons (by omega), show (i + 1) * 2 = i * 2 + 1 + 1 by omega]⟩
  rw [hd, ← h1, set_two2, List.append_assoc]
  rfl
theorem half2_other (n i : Nat) (len : Nat → Nat) (C : Nat → List Value) (k : Nat) (h : k ≠ n) : half2 mk n i len C k = half2 mk n (i + 1) len C k := by
  unfold half2
  by_cases h1 : k < n
  · rw [if_pos h1, if_pos h1]
  · rw [if_neg h1, if_neg h, if_neg h1, if_neg h]
end
/-- An element is written into list n: the bag's lists behind it, and all blocks of another type stay. -/
theorem Bags.put2 {mk : Nat → Nat → List Value} (hmk : ∀ k i, (mk k i).length = 2) {E : TypeId} {w : World} {base m n i g cap : Nat} {vs : Nat → Value} {len : Nat → Nat} {C : Nat → List Value} {u v : Value} (h : Bags w base E 2 m vs len (half2 mk n i len C)) (hn : n < m) (hv : vs n = .slice (some ⟨g, 0, none⟩) (len n) cap) (hi : i < len n) (hl : (C n).length = len n * 2) (hm : mk n i = [u, v]) :
    Bags ((w.setCell ⟨g, i * 2, none⟩ u).setCell ⟨g, i * 2 + 1, none⟩ v) base E 2 m vs len (half2 mk n (i + 1) len C) ∧ base ≤ g ∧ (∀ T, T ≠ E → KeepT T w ((w.setCell ⟨g, i * 2, none⟩ u).setCell ⟨g, i * 2 + 1, none⟩ v)) ∧ (∀ (bg : Nat) (cs : Array Value) (T : TypeId), w.heap[bg]? = some (.cells cs T (0, 0)) → T ≠ E → g ≠ bg) := by
  have ho := h.own n hn
  rw [hv] at ho
  have hs1 := (ho.stored (i * 2) u).1
  have hs2 := (hs1.stored (i * 2 + 1) v).1
  rw [half2_set mk hmk n i len C u v hi hl hm] at hs2
  have hg : ∃ cur, w.heap[g]? = some (.cells cur E (0, 0)) ∧ base ≤ g := by
    rcases ho.2 with ⟨e, _⟩ | ⟨g', cap', cur, e, hb, hk, _⟩
    · simp at e
    · simp only [Value.slice.injEq, Option.some.injEq, Addr.mk.injEq, and_true, true_and] at e
      obtain ⟨rfl, rfl⟩ := e
      exact ⟨cur, hk, hb⟩
  obtain ⟨cur, hg, hb⟩ := hg
  have hne : ∀ (bg : Nat) (cs : Array Value) (T : TypeId), w.heap[bg]? = some (.cells cs T (0, 0)) → T ≠ E → g ≠ bg := fun bg cs T hk hT e => by
    subst e
    rw [hg] at hk
    simp only [Option.some.injEq, Obj.cells.injEq] at hk
    exact hT hk.2.1.symm
  refine ⟨⟨fun k hk => ?_, h.ap⟩, hb, fun T hT k cs hk => ?_, hne⟩
  · by_cases e : k = n
    · subst e; rw [hv]; exact hs2
    · rw [← half2_other mk n i len C k e]
      have hn2 : (vs k).ownBlock ≠ some g := fun e2 => h.ap k n hk hn e g e2 (by rw [hv]; rfl)
      exact ownsRow_setCell_other (ownsRow_setCell_other (h.own k hk) hn2 _) hn2 _
  · have hn2 := hne k cs T hk hT
    exact (heap_setCell_other _ ⟨g, i * 2 + 1, none⟩ k _ (fun e => hn2 e.symm)).trans (heap_setCell_other w ⟨g, i * 2, none⟩ k _ (fun e => hn2 e.symm))
end Go.Proofs.YthegepiafodpjaaDoor

namespace Go.Proofs.YthegepiafodpjaaDoor
open Go.RowKit

/-- Of the kind at head c, m lists lie in the bag. -/
structure Kd (w : World) (base c : Nat) (LT ET : TypeId) (sz lm m : Nat) (fs : List Value) (bv : Value) (vs : Nat → Value) (len : Nat → Nat) (C : Nat → List Value) : Prop where
  hd : fs[c]? = some bv
  own : w.ownsRow base LT 1 bv m (firstN vs m)
  b : Bags w base ET sz m vs len C
  lim : ∀ k, k < m → len k ≤ lm
/-- What Add of one list leaves. -/
structure AddedK (c : Nat) (LT : TypeId) (w w' : World) (base bg n : Nat) (fs : List Value) (bv bv' : Value) (us : List Value) (u : Value) : Prop where
  bag : BagAt w' bg (fs.set c bv')
  own : w'.ownsRow base LT 1 bv' (n + 1) (us ++ [u])
  keep : ∀ T, T ≠ LT → T ≠ 59 → KeepT T w w'
  blk : ∀ k, k < w.heap.size → k ≠ bg → bv.ownBlock ≠ some k → w'.heap[k]? = w.heap[k]?
  new : ∀ k, bv'.ownBlock = some k → bv.ownBlock = some k ∨ w.heap.size ≤ k
  bel : ∀ B w0, Below B w0 w → B ≤ base → B ≤ bg → Below B w0 w'
  size : w.heap.size ≤ w'.heap.size
def AddedKPost (c : Nat) (LT : TypeId) (w : World) (base bg n : Nat) (fs : List Value) (bv : Value) (us : List Value) (u : Value) (e : Ending) (w' : World) : Prop := e = .returned undef ∧ ∃ bv', AddedK c LT w w' base bg n fs bv bv' us u
section
variable {w w' : World} {base bg c n sz lm m : Nat} {LT ET : TypeId} {fs : List Value} {bv bv' u : Value} {vs : Nat → Value} {len : Nat → Nat} {C : Nat → List Value} {us : List Value}
theorem AddedK.of_app (hbag : BagAt w bg fs) (hne : LT ≠ 59) {w1 : World} (hown : w.ownsRow base LT 1 bv n us) (hov : w1.ownsRow base LT 1 bv' (n + 1) (us ++ [u])) (hp : AppPost w w1 base bv bv') :
    AddedK c LT w (w1.setCell ⟨bg, c, none⟩ bv') base bg n fs bv bv' us u := by
  have hB1 := hbag.keepT (KeepT.of_app hown hp hne)
  exact ⟨hB1.set c _, (keepT_bag hB1 hne _).own hov, fun T hT hG => (KeepT.of_app hown hp hT.symm).trans (keepT_bag hB1 hG _),
    fun k h1 h2 h3 => (heap_setCell_other w1 ⟨bg, c, none⟩ k _ h2).trans (hp.block k h1 h3), hp.new, fun B w0 h0 h1 h2 => (hp.bel B w0 h0 h1).setCell (by show B ≤ bg; exact h2) _, by have := hp.size; simpa using this⟩
theorem Kd.keepT (h : Kd w base c LT ET sz lm m fs bv vs len C) (h1 : KeepT LT w w') (h2 : KeepT ET w w') : Kd w' base c LT ET sz lm m fs bv vs len C :=
  { h with own := h1.own h.own, b := h.b.keepT h2 }
theorem Kd.below (h : Kd w base c LT ET sz lm m fs bv vs len C) (hb : Below w.heap.size w w') : Kd w' base c LT ET sz lm m fs bv vs len C := h.keepT (KeepT.of_below hb) (KeepT.of_below hb)
theorem Kd.none (w : World) (base c : Nat) (LT ET : TypeId) (sz lm : Nat) (fs : List Value) (hd : fs[c]? = some (.slice none 0 0)) (vs : Nat → Value) (len : Nat → Nat) (C : Nat → List Value) : Kd w base c LT ET sz lm 0 fs (.slice none 0 0) vs len C :=
  ⟨hd, World.ownsRow_nil _ _ _ _, ⟨fun _ h => absurd h (Nat.not_lt_zero _), fun _ _ h => absurd h (Nat.not_lt_zero _)⟩, fun _ h => absurd h (Nat.not_lt_zero _)⟩
theorem bags_snoc (hb : Bags w base ET sz m vs len C) {v : Value} {n : Nat} {xs : List Value} (hv : w.ownsRow base ET sz v n xs) (hap : ∀ j, j < m → Apart (vs j) v) : Bags w base ET sz (m + 1) (snoc vs m v) (snoc len m n) (snoc C m xs) := by
  refine ⟨fun k hk => ?_, fun j k hj hk hne => ?_⟩
  · by_cases e : k = m
    · subst e; simp only [snoc_same]; exact hv
    · have hk' : k < m := by omega
      simp only [snoc_lt _ _ hk']; exact hb.own k hk'
  · by_cases e : j = m
    · subst e
      have hk' : k < j := by omega
      rw [snoc_same, snoc_lt _ _ hk']
      exact fun x h1 h2 => hap k hk' x h2 h1
    · have hj' : j < m := by omega
      rw [snoc_lt _ _ hj']
      by_cases e2 : k = m
      · subst e2; rw [snoc_same]; exact hap j hj'
      · have hk' : k < m := by omega
        rw [snoc_lt _ _ hk']
        exact hb.ap j k hj' hk' hne
/-- One more list lies in the bag. -/
theorem Kd.add (h : Kd w base c LT ET sz lm m fs bv vs len C) (hA : AddedK c LT w w' base bg m fs bv bv' (firstN vs m) u) (hc : c < fs.length) (hne : ET ≠ LT) (hneG : ET ≠ 59) {n : Nat} {xs : List Value} (hv : w.ownsRow base ET sz u n xs) (hn : n ≤ lm) (hap : ∀ j, j < m → Apart (vs j) u) :
    Kd w' base c LT ET sz lm (m + 1) (fs.set c bv') bv' (snoc vs m u) (snoc len m n) (snoc C m xs) := by
  have hk := hA.keep ET hne hneG
  have ho := hA.own
  rw [firstN_snoc] at ho
  refine ⟨by simp [hc], ho, bags_snoc (h.b.keepT hk) (hk.own hv) hap, fun k hk => ?_⟩
  by_cases e : k = m
  · subst e; rw [snoc_same]; exact hn
  · have hk' : k < m := by omega
    rw [snoc_lt _ _ hk']; exact h.lim k hk'
/-- A list of another kind lies in the bag. -/
theorem Kd.other (h : Kd w base c LT ET sz lm m fs bv vs len C) {c2 : Nat} {LT2 : TypeId} {n : Nat} {bv2 bv2' u2 : Value} {us2 : List Value} (hA : AddedK c2 LT2 w w' base bg n fs bv2 bv2' us2 u2) (hcc : c2 ≠ c) (h1 : LT ≠ LT2) (h2 : LT ≠ 59) (h3 : ET ≠ LT2) (h4 : ET ≠ 59) :
    Kd w' base c LT ET sz lm m (fs.set c2 bv2') bv vs len C :=
  ⟨by rw [List.getElem?_set_ne hcc]; exact h.hd, (hA.keep LT h1 h2).own h.own, h.b.keepT (hA.keep ET h3 h4), h.lim⟩
end
/-- The heads of a bag into which nothing was gathered. -/
def heads0 : List Value := List.replicate 19 (.slice none 0 0)
theorem heads0_at (i : Nat) (h : i < 19) : heads0[i]? = some (.slice none 0 0) := by unfold heads0; rw [List.getElem?_replicate, if_pos h]
theorem heads0_len : heads0.length = 19 := by simp [heads0]
theorem BagAt.new0 (w : World) : BagAt (w.alloc (.cells #[.slice none 0 0, .slice none 0 0, .slice none 0 0, .slice none 0 0, .slice none 0 0, .slice none 0 0, .slice none 0 0, .slice none 0 0, .slice none 0 0, .slice none 0 0, .slice none 0 0, .slice none 0 0, .slice none 0 0, .slice none 0 0, .slice none 0 0, .slice none 0 0, .slice none 0 0, .slice none 0 0, .slice none 0 0] 59)) w.heap.size heads0 := heap_alloc_new w _
end Go.Proofs.YthegepiafodpjaaDoor

namespace Go.Proofs.YthegepiafodpjaaDoor
open Go.RowKit

def mkMs (n i : Nat) : List Value := [.int .u8 (mkB n i), .bool true]
theorem mkMs_len (n i : Nat) : (mkMs n i).length = 2 := rfl
theorem infoMk : (Tryd.prog.info? 35).map (fun i => (i.zero, i.size, i.bytes)) = some (some (.agg #[.int .u8 0, .bool false]), 2, 2) := by kernel_rfl
theorem infoLMk : (Tryd.prog.info? 22).map (fun i => (i.zero, i.size, i.bytes)) = some (some (.slice none 0 0), 1, 24) := by kernel_rfl
theorem neML : (35 : TypeId) ≠ 22 := by decide
theorem neLM : (22 : TypeId) ≠ 35 := by decide
theorem neMG : (35 : TypeId) ≠ 59 := by decide
theorem neLMG : (22 : TypeId) ≠ 59 := by decide

theorem own_someG {w : World} {base n size : Nat} {e : TypeId} {v : Value} {us : List Value} (h : w.ownsRow base e size v n us) (hn : 0 < n) : ∃ g cap, v = .slice (some ⟨g, 0, none⟩) n cap ∧ n ≤ cap := by
  rcases h.2 with ⟨_, h0⟩ | ⟨g, cap, cur, rfl, _, _, hc, _⟩
  · omega
  · exact ⟨g, cap, rfl, hc⟩
theorem FrT.below {w wr w' : World} {base bg : Nat} {T : Nat → Prop} {fs : List Value} (h : FrT w wr base bg T) (hbag : BagAt w bg fs) (hb : Below wr.heap.size wr w') (hbase : base ≤ wr.heap.size) : FrT w w' base bg T :=
  ⟨(hb.block bg (h.at_ hbag).lt).trans h.bag, fun B w0 h0 hB => (h.bel B w0 h0 hB).trans (hb.mono (Nat.le_trans hB hbase)), Nat.le_trans h.size hb.size, h.lt, fun k hk => (hb.block k (Nat.lt_of_lt_of_le (h.lt k hk) h.size)).trans (h.kept k hk)⟩
/-- What phase three reads. -/
structure PM (w wr : World) (base bg m : Nat) (T : Nat → Prop) (bv v5 v6 : Value) (vs : Nat → Value) (len : Nat → Nat) (ones mores : Nat → Value) : Prop where
  g : Grown wr base 35 2 m mkMs vs len m ones mores
  l : LstG 22 wr base bv v5 v6 m m m vs ones mores
  f : FrT w wr base bg T
theorem PM.below {w wr w' : World} {base bg m : Nat} {T : Nat → Prop} {bv v5 v6 : Value} {vs : Nat → Value} {len : Nat → Nat} {ones mores : Nat → Value} {fs : List Value} (h : PM w wr base bg m T bv v5 v6 vs len ones mores) (hbag : BagAt w bg fs) (hbase : base ≤ w.heap.size) (hb : Below wr.heap.size wr w') : PM w w' base bg m T bv v5 v6 vs len ones mores :=
  ⟨h.g.keepT (KeepT.of_below hb), h.l.keepT (KeepT.of_below hb), h.f.below hbag hb (Nat.le_trans hbase h.f.size)⟩
set_option maxRecDepth 100000 in
set_option maxHeartbeats 2000000 in
theorem apartMarks_T (T : Nat → Prop) (w : World) (base bg m : Nat) (bv : Value) (fs : List Value) (vs : Nat → Value) (len : Nat → Nat) (C : Nat → List Value) (hbag : BagAt w bg fs) (hf4 : fs[4]? = some bv) (hbv : w.ownsRow base 22 1 bv m (firstN vs m)) (hm : m ≤ 400) (hB : Bags w base 35 2 m vs len C)
    (hlen : ∀ k, k < m → len k ≤ 70368744175616) (hbase : base ≤ w.heap.size) (hT : ∀ k, T k → k < w.heap.size) (hTV : ∀ j, j < m → FarT T (vs j)) :
    Calls Tryd.prog 47 #[.pointer (some ⟨bg, 0, none⟩)] w fun e w' => e = .returned (.bool true) ∧ FrT w w' base bg T := by
  obtain ⟨bb, bc, rfl⟩ := own_shape hbv
  have HBAG := Lib.hid hbag
  have HF4 := Lib.hid hf4
  have HBV := Lib.hid hbv
  have HLEN := Lib.hid hlen
  have HTV := Lib.hid hTV
  have hCl : ∀ k, k < m → (C k).length = len k * 2 := fun k hk => (hB.own k hk).1
  have HCL := Lib.hid hCl
  have hB0 : Bags w base 35 2 m vs len (half2 mkMs 0 0 len C) := by rw [half2_zero]; exact hB
  clear hbag hf4 hbv hlen hCl hB hTV
  go_enter Tryd.func47, Tryd.ntmps47
  go_wp2
  go_loopw [3] (fun v3 wr => ∃ n : Nat, n ≤ m ∧ v3 = .int .i64 n ∧ Bags wr base 35 2 m vs len (half2 mkMs n 0 len C) ∧ wr.ownsRow base 22 1 (.slice bb m bc) m (firstN vs m) ∧ FrT w wr base bg T) (fun v3 _ => m - (intOf v3).toNat)
  case atStart => exact ⟨0, Nat.zero_le _, rfl, hB0, HBV.out, FrT.refl _ _ _ _ hT⟩
  case round =>
    obtain ⟨n, hn, rfl, hBn, hbv, hF⟩ := hrel
    have hc0 : wr.cell? ⟨bg, 4, none⟩ = some (.slice bb m bc) := ((hF.at_ HBAG.out).cell 4).trans HF4.out
    by_cases hlt : n < m
    · have hd1 : decide ((n : Int) < (m : Int)) = true := by simp; omega
      obtain ⟨gb, cb, he, hmc⟩ := own_some hbv (by omega)
      simp only [Value.slice.injEq] at he
      obtain ⟨rfl, -, rfl⟩ := he
      have hgbb := hF.at_ HBAG.out
      have hcn : wr.cell? ⟨gb, n, none⟩ = some (vs n) := (row_cell hbv n hlt).trans (firstN_at vs m n hlt)
      obtain ⟨an, cn, hvn⟩ := own_shape (hBn.own n hlt)
      rw [hvn] at hcn
      have hln := HLEN.out n hlt
      have HVN := Lib.hid hvn
      have HB1 := Lib.hid hBn
      have HBV1 := Lib.hid hbv
      have HF1 := Lib.hid hF
      obtain ⟨ln, hlnn⟩ : ∃ q, len n = q := ⟨_, rfl⟩
      have HLN := Lib.hid hlnn
      rw [hlnn] at hln hcn
      clear hBn hbv hF hB0 hvn hlnn hgbb
      go_wp2_with fail
      rename World => w1
      go_loopw [4] (fun v4 wr => ∃ i : Nat, i ≤ ln ∧ v4 = .int .i64 i ∧ Bags wr base 35 2 m vs len (half2 mkMs n i len C) ∧ wr.ownsRow base 22 1 (.slice (some ⟨gb, 0, none⟩) m bc) m (firstN vs m) ∧ FrT w wr base bg T) (fun v4 _ => ln - (intOf v4).toNat)
      case atStart => exact ⟨0, Nat.zero_le _, rfl, HB1.out, HBV1.out, HF1.out⟩
      case round =>
        obtain ⟨i, hi, rfl, hBn, hbv, hF⟩ := hrel
        clear hc0 hcn
        have hc0 : wr.cell? ⟨bg, 4, none⟩ = some (.slice (some ⟨gb, 0, none⟩) m bc) := ((hF.at_ HBAG.out).cell 4).trans HF4.out
        have hcn : wr.cell? ⟨gb, n, none⟩ = some (.slice an ln cn) := by
          rw [← HLN.out, ← HVN.out]
          exact (row_cell hbv n hlt).trans (firstN_at vs m n hlt)
        by_cases hil : i < ln
        · have hown := hBn.own n hlt
          rw [HVN.out, HLN.out] at hown
          obtain ⟨gn, cn', he, hnc⟩ := own_someG hown (by omega)
          simp only [Value.slice.injEq] at he
          obtain ⟨rfl, -, rfl⟩ := he
          obtain ⟨hput, k2, k1, k3⟩ := hBn.put2 (u := .int .u8 (mkB n i)) (v := .bool true) mkMs_len hlt (by rw [HVN.out]) (by rw [HLN.out]; exact hil) (HCL.out n hlt) rfl
          have hsz : (half2 mkMs n i len C n).length = ln * 2 := hown.1
          have hce : ∃ x, wr.cell? ⟨gn, i * 2, none⟩ = some x := ⟨_, (World.ownsRow.cellAt hown (i * 2) (by omega)).trans (List.getElem?_eq_getElem (by omega))⟩
          have hce2 : ∃ x, wr.cell? ⟨gn, i * 2 + 1, none⟩ = some x := ⟨_, (World.ownsRow.cellAt hown (i * 2 + 1) (by omega)).trans (List.getElem?_eq_getElem (by omega))⟩
          obtain ⟨x, hce⟩ := hce
          obtain ⟨x2, hce2⟩ := hce2
          have hfr := World.ownsRow.frozenAt hown (i * 2)
          have hfr2 := World.ownsRow.frozenAt hown (i * 2 + 1)
          have hgbg : gn ≠ bg := k3 bg _ _ (hF.at_ HBAG.out) neMG.symm
          have hTn : ¬ T gn := fun e => HTV.out n hlt gn e (by rw [HVN.out]; rfl)
          have HR : Hid (Bags ((wr.setCell ⟨gn, i * 2, none⟩ (.int .u8 (mkB n i))).setCell ⟨gn, i * 2 + 1, none⟩ (.bool true)) base 35 2 m vs len (half2 mkMs n (i + 1) len C) ∧ ((wr.setCell ⟨gn, i * 2, none⟩ (.int .u8 (mkB n i))).setCell ⟨gn, i * 2 + 1, none⟩ (.bool true)).ownsRow base 22 1 (.slice (some ⟨gb, 0, none⟩) m bc) m (firstN vs m) ∧ FrT w ((wr.setCell ⟨gn, i * 2, none⟩ (.int .u8 (mkB n i))).setCell ⟨gn, i * 2 + 1, none⟩ (.bool true)) base bg T) :=
            Lib.hid ⟨hput, (k1 _ neLM).own hbv, (hF.cell k2 hgbg _ hTn).cell k2 hgbg _ hTn⟩
          have hmk : IntKind.u8.wrap (31 * (n : Int) + 7 * (i : Int) + 3) = mkB n i := rfl
          clear hput k1 k2 k3 hown hBn hbv hF hgbg hTn hsz
          go_wp2_with fail
          go_roundw
          case rel => exact ⟨i + 1, by omega, by go_num, HR.out⟩
          case measure => simp [intOf]; omega
        · obtain rfl : i = ln := by omega
          have HR : Hid (Bags wr base 35 2 m vs len (half2 mkMs (n + 1) 0 len C)) := Lib.hid (by
            rw [← half2_next mkMs n len C (HCL.out n hlt), HLN.out]; exact hBn)
          have HBV2 := Lib.hid hbv
          have HF2 := Lib.hid hF
          clear hBn hbv hF
          go_wp2_with fail
          go_roundw
          case rel => exact ⟨n + 1, by omega, by go_num, HR.out, HBV2.out, HF2.out⟩
          case measure => simp [intOf]; omega
    · obtain rfl : n = m := by omega
      have hG0 : Grown wr base 35 2 n mkMs vs len 0 (fun _ => undef) (fun _ => undef) :=
        ⟨⟨fun k hk => by have := hBn.own k hk; rw [half2_all mkMs n len C k hk] at this; exact this, hBn.ap⟩, fun k hk => absurd hk (Nat.not_lt_zero _), fun k hk => absurd hk (Nat.not_lt_zero _), fun k _ hk => absurd hk (Nat.not_lt_zero _)⟩
      have hL0 : LstG 22 wr base (.slice bb n bc) (.slice none 0 0) (.slice none 0 0) n 0 0 vs (fun _ => undef) (fun _ => undef) :=
        ⟨hbv, World.ownsRow_nil _ _ _ _, World.ownsRow_nil _ _ _ _, fun k h _ => by simp [Value.ownBlock] at h, fun k h _ => by simp [Value.ownBlock] at h, fun k h _ => by simp [Value.ownBlock] at h⟩
      have HG0 := Lib.hid hG0
      have HL0 := Lib.hid hL0
      have HF0 := Lib.hid hF
      clear hG0 hL0 hF hBn hbv hB0 hlt hn
      rename Nat => m
      go_wp2_with fail
      rename World => w1
      go_loopw [5, 6, 7] (fun v5 v6 v7 wr => ∃ (n : Nat) (ones mores : Nat → Value), n ≤ m ∧ v7 = .int .i64 n ∧ Grown wr base 35 2 m mkMs vs len n ones mores ∧ LstG 22 wr base (.slice bb m bc) v5 v6 m n n vs ones mores ∧ FrT w wr base bg T ∧ FarT T v5 ∧ FarT T v6) (fun _ _ v7 _ => m - (intOf v7).toNat)
      case atStart => exact ⟨0, _, _, Nat.zero_le _, rfl, HG0.out, HL0.out, HF0.out, FarT.nil T, FarT.nil T⟩
      case round =>
        obtain ⟨n, ones, mores, hn, rfl, hG, hL, hF, hT5, hT6⟩ := hrel
        clear hc0
        have hc0 : wr.cell? ⟨bg, 4, none⟩ = some (.slice bb m bc) := ((hF.at_ HBAG.out).cell 4).trans HF4.out
        obtain ⟨a5, c5, rfl⟩ := own_shape hL.o
        obtain ⟨a6, c6, rfl⟩ := own_shape hL.m
        by_cases hlt : n < m
        · have hd1 : decide ((n : Int) < (m : Int)) = true := by simp; omega
          obtain ⟨gb, cb, he, hmc⟩ := own_some hL.b (by omega)
          simp only [Value.slice.injEq] at he
          obtain ⟨rfl, -, rfl⟩ := he
          have hcn : wr.cell? ⟨gb, n, none⟩ = some (vs n) := (row_cell hL.b n hlt).trans (firstN_at vs m n hlt)
          obtain ⟨an, cn, hvn⟩ := own_shape (hG.b.own n hlt)
          rw [hvn] at hcn
          have hln := HLEN.out n hlt
          have HVN := Lib.hid hvn
          have HG := Lib.hid hG
          have HL := Lib.hid hL
          have HF := Lib.hid hF
          obtain ⟨ln, hlnn⟩ : ∃ q, len n = q := ⟨_, rfl⟩
          have HLN := Lib.hid hlnn
          rw [hlnn] at hln hcn
          have HT56 := Lib.hid (And.intro hT5 hT6)
          have HT8 := Lib.hid (show FarT T (.slice an ln cn) from by rw [← hlnn, ← hvn]; exact HTV.out n hlt)
          have hst := hG.start (o1 := undef) hlt
          rw [hvn, hlnn] at hst
          have HST := Lib.hid hst
          clear hG hL hF hvn hlnn hst hT5 hT6
          go_wp2_with fail
          rename World => w2
          go_loopw [5, 8, 9] (fun v5 v8 v9 wr => ∃ (i : Nat) (o1 : Value), ln ≤ i ∧ i ≤ ln + 70 ∧ v9 = .int .i64 i ∧ Grows wr base 35 2 m mkMs vs len n ones mores i v8 o1 ∧ LstG 22 wr base (.slice (some ⟨gb, 0, none⟩) m bc) v5 (.slice a6 n c6) m (if ln < i then n + 1 else n) n vs (fun k => if k = n then o1 else ones k) mores ∧ FrT w wr base bg T ∧ FarT T v5 ∧ FarT T v8) (fun _ _ v9 _ => ln + 70 - (intOf v9).toNat)
          case atStart => exact ⟨ln, undef, Nat.le_refl _, by omega, rfl, HST.out, by rw [if_neg (Nat.lt_irrefl _)]; exact HL.out.congr (fun k hk => by rw [if_neg (by omega)]), HF.out, HT56.out.1, HT8.out⟩
          case round =>
            obtain ⟨i, o1, hi0, hi1, rfl, hG, hL, hF, hT5, hT8⟩ := hrel
            have HT58 := Lib.hid (And.intro hT5 hT8)
            clear hT5 hT8
            clear hc0 hcn
            have hc0 : wr.cell? ⟨bg, 4, none⟩ = some (.slice (some ⟨gb, 0, none⟩) m bc) := ((hF.at_ HBAG.out).cell 4).trans HF4.out
            have hcn : wr.cell? ⟨gb, n, none⟩ = some (.slice an ln cn) := by
              rw [← HLN.out, ← HVN.out]
              exact (row_cell hL.b n hlt).trans (firstN_at vs m n hlt)
            obtain ⟨a8, c8, rfl⟩ := own_shape hG.own
            have hmk : IntKind.u8.wrap (31 * (n : Int) + 7 * (i : Int) + 3) = mkB n i := rfl
            have hbs : base ≤ wr.heap.size := Nat.le_trans hbase hF.size
            by_cases hil : i < ln + 70
            · have hd2 : decide ((i : Int) < (ln : Int) + 70) = true := by simp; omega
              have hown := hG.own
              have HG := Lib.hid hG
              have HF := Lib.hid hF
              clear hG hF
              by_cases h0 : i = ln
              · have ht : ((i : Int) == (ln : Int)) = true := by simp; omega
                have hlen0 : i = len n := by rw [HLN.out]; exact h0
                rw [if_neg (by omega)] at hL
                obtain ⟨a5', c5', rfl⟩ := own_shape hL.o
                have HL := Lib.hid hL
                have HLE := Lib.hid hlen0
                clear hL hlen0 h0
                go_wp2_with (at_builtin; refine append_2g rfl (.tmp 83) (.tmp 92) 22 35 _ _ 2 rfl Tryd.underlying22 infoMk base _ i _ (.int .u8 (mkB n i)) (.bool true) rfl hown rfl ⟨rfl, rfl⟩ (by omega) (by omega) hbs ?_)
                intro v' w3 hown' hold hp
                have hG' := HG.out.step (by omega) hlt (Nat.le_of_eq HLE.out.symm) hown' hold hp
                rw [if_pos HLE.out] at hG'
                have hL' := HL.out.keepT (KeepT.of_app hown hp neML)
                have hF' := HF.out.app HBAG.out hown neMG hp HT58.out.2
                have HT8' := Lib.hid (HT58.out.2.app HF.out hp)
                obtain ⟨a8', c8', rfl⟩ := own_shape hown'
                have hc0 : w3.cell? ⟨bg, 4, none⟩ = some (.slice (some ⟨gb, 0, none⟩) m bc) := ((hF'.at_ HBAG.out).cell 4).trans HF4.out
                have hcn : w3.cell? ⟨gb, n, none⟩ = some (.slice an ln cn) := by
                  rw [← HLN.out, ← HVN.out]
                  exact (row_cell hL'.b n hlt).trans (firstN_at vs m n hlt)
                have hbs' : base ≤ w3.heap.size := Nat.le_trans hbs hp.size
                have ho5 := hL'.o
                have HG' := Lib.hid hG'
                have HL' := Lib.hid hL'
                have HF' := Lib.hid hF'
                clear hG' hL' hF' hown hown' hold hp hbs
                go_wp2_with (at_builtin; refine append_lg rfl (.tmp 104) (.tmp 106) 43 22 rfl Tryd.underlying43 infoLMk base _ n _ _ rfl ho5 rfl rfl (by omega) hbs' ?_)
                intro v5' w4 ho5' hold5 hp5
                have hL2 := HL'.out.one ho5' hp5
                have HL2 := Lib.hid (hL2.congr (ones' := fun k => if k = n then .slice a8' (i + 1) c8' else ones k) (fun k hk => by
                  by_cases e : k = n
                  · rw [if_pos e, if_pos e]
                  · rw [if_neg e, if_neg e, if_neg e]))
                have HG2 := Lib.hid (HG'.out.keepT (KeepT.of_app ho5 hp5 neLM))
                have HF2 := Lib.hid (HF'.out.app HBAG.out ho5 neLMG hp5 HT58.out.1)
                have HT5' := Lib.hid (HT58.out.1.app HF'.out hp5)
                obtain ⟨a5'', c5'', rfl⟩ := own_shape ho5'
                clear hL2 ho5 ho5' hold5 hp5 hc0 hcn
                go_wp2_with fail
                go_roundw
                case rel => exact ⟨i + 1, _, by omega, by omega, by go_num, HG2.out, by rw [if_pos (by have := HLE.out; have := HLN.out; omega)]; exact HL2.out, HF2.out, HT5'.out, HT8'.out⟩
                case measure => simp [intOf]; omega
              · have ht : ((i : Int) == (ln : Int)) = false := by simp; omega
                have hlen0 : i ≠ len n := by rw [HLN.out]; exact h0
                have hlen1 : len n ≤ i := by rw [HLN.out]; exact hi0
                rw [if_pos (by omega)] at hL
                obtain ⟨a5', c5', rfl⟩ := own_shape hL.o
                have HL := Lib.hid hL
                have HLE := Lib.hid hlen0
                clear hL hlen0
                go_wp2_with (at_builtin; refine append_2g rfl (.tmp 83) (.tmp 92) 22 35 _ _ 2 rfl Tryd.underlying22 infoMk base _ i _ (.int .u8 (mkB n i)) (.bool true) rfl hown rfl ⟨rfl, rfl⟩ (by omega) (by omega) hbs ?_)
                intro v' w3 hown' hold hp
                have hG' := HG.out.step (by omega) hlt hlen1 hown' hold hp
                rw [if_neg HLE.out] at hG'
                have hL' := HL.out.keepT (KeepT.of_app hown hp neML)
                have hF' := HF.out.app HBAG.out hown neMG hp HT58.out.2
                have HT8' := Lib.hid (HT58.out.2.app HF.out hp)
                obtain ⟨a8', c8', rfl⟩ := own_shape hown'
                have hc0 : w3.cell? ⟨bg, 4, none⟩ = some (.slice (some ⟨gb, 0, none⟩) m bc) := ((hF'.at_ HBAG.out).cell 4).trans HF4.out
                have hcn : w3.cell? ⟨gb, n, none⟩ = some (.slice an ln cn) := by
                  rw [← HLN.out, ← HVN.out]
                  exact (row_cell hL'.b n hlt).trans (firstN_at vs m n hlt)
                have HG' := Lib.hid hG'
                have HL' := Lib.hid hL'
                have HF' := Lib.hid hF'
                clear hG' hL' hF' hown hown' hold hp hbs hlen1
                go_wp2_with fail
                go_roundw
                case rel => exact ⟨i + 1, _, by omega, by omega, by go_num, HG'.out, by rw [if_pos (by omega)]; exact HL'.out, HF'.out, HT58.out.1, HT8'.out⟩
                case measure => simp [intOf]; omega
            · obtain rfl : i = ln + 70 := by omega
              rw [if_pos (by omega)] at hL
              obtain ⟨a5', c5', rfl⟩ := own_shape hL.o
              have hd2 : decide (((ln + 70 : Nat) : Int) < (ln : Int) + 70) = false := by simp
              have hGd := (show Grows wr base 35 2 m mkMs vs len n ones mores (len n + 70) (.slice a8 (ln + 70) c8) o1 by rw [HLN.out]; exact hG).done hlt
              have hm6 := hL.m
              have HG := Lib.hid hGd
              have HL := Lib.hid hL
              have HF := Lib.hid hF
              clear hGd hG hL hF hil hi1
              go_wp2_with (at_builtin; refine append_lg rfl (.tmp 108) (.tmp 110) 43 22 rfl Tryd.underlying43 infoLMk base _ n _ _ rfl hm6 rfl rfl (by omega) hbs ?_)
              intro v6' w3 ho6' hold6 hp6
              have HL2 := Lib.hid (HL.out.more ho6' hp6)
              have HG2 := Lib.hid (HG.out.keepT (KeepT.of_app hm6 hp6 neLM))
              have HF2 := Lib.hid (HF.out.app HBAG.out hm6 neLMG hp6 HT56.out.2)
              have HT6' := Lib.hid (HT56.out.2.app HF.out hp6)
              obtain ⟨a6', c6', rfl⟩ := own_shape ho6'
              clear ho6' hold6 hp6 hm6 hc0 hcn
              go_wp2_with fail
              go_roundw
              case rel => exact ⟨n + 1, _, _, by omega, by go_num, HG2.out, HL2.out, HF2.out, HT58.out.1, HT6'.out⟩
              case measure => simp [intOf]; omega
        · obtain rfl : n = m := by omega
          have HG := Lib.hid hG
          have HL := Lib.hid hL
          have HF := Lib.hid hF
          clear hG hL hF hlt hn
          go_wp2_with fail
          have HP := Lib.hid (PM.mk HG.out HL.out HF.out)
          clear HG HL HF
          rename World => w9
          go_loopw [10] (fun v wr => ∃ k : Nat, k ≤ n ∧ v = .int .i64 k ∧ PM w wr base bg n T (.slice bb n bc) (.slice a5 n c5) (.slice a6 n c6) vs len ones mores) (fun v _ => n - (intOf v).toNat)
          case atStart => exact ⟨0, Nat.zero_le _, rfl, HP.out⟩
          case round =>
            clear HP
            obtain ⟨k, hk, rfl, hP⟩ := hrel
            have HP := Lib.hid hP
            by_cases hlt : k < n
            · have hd1 : decide ((k : Int) < (n : Int)) = true := by simp; omega
              obtain ⟨g6, cb, he, h6c⟩ := own_some hP.l.m (by omega)
              simp only [Value.slice.injEq] at he
              obtain ⟨rfl, -, rfl⟩ := he
              have hc6 : wr.cell? ⟨g6, k, none⟩ = some (mores k) := (row_cell hP.l.m k hlt).trans (firstN_at mores n k hlt)
              obtain ⟨gm, cm, hmm, hmc⟩ := own_someG (hP.g.more k hlt) (by omega)
              rw [hmm] at hc6
              have hln := HLEN.out k hlt
              have HMM := Lib.hid hmm
              have HLT := Lib.hid hlt
              obtain ⟨lk, hlk⟩ : ∃ lk, len k = lk := ⟨_, rfl⟩
              have HLK := Lib.hid hlk
              rw [hlk] at hc6 hln
              clear hP hmm hlk hmc
              go_wp2_with fail
              go_loopw [11] (fun v wr => ∃ i : Nat, i ≤ lk + 70 ∧ v = .int .i64 i ∧ PM w wr base bg n T (.slice bb n bc) (.slice a5 n c5) (.slice (some ⟨g6, 0, none⟩) n c6) vs len ones mores) (fun v _ => lk + 70 - (intOf v).toNat)
              case atStart => exact ⟨0, Nat.zero_le _, rfl, HP.out⟩
              case round =>
                clear HP hc6
                obtain ⟨i, hi, rfl, hP⟩ := hrel
                have HP := Lib.hid hP
                have hc6 : wr.cell? ⟨g6, k, none⟩ = some (.slice (some ⟨gm, 0, none⟩) (lk + 70) cm) := by
                  rw [← HLK.out, ← HMM.out]
                  exact (row_cell hP.l.m k hlt).trans (firstN_at mores n k hlt)
                by_cases hil : i < lk + 70
                · have hom := hP.g.more k hlt
                  rw [HMM.out, HLK.out] at hom
                  have hx0 : wr.cell? ⟨gm, i * 2, none⟩ = some (.int .u8 (mkB k i)) := (World.ownsRow.cellAt hom (i * 2 + 0) (by omega)).trans (marks_at _ mkMs_len k (lk + 70) i 0 hil (by omega))
                  have hx1 : wr.cell? ⟨gm, i * 2 + 1, none⟩ = some (.bool true) := (World.ownsRow.cellAt hom (i * 2 + 1) (by omega)).trans (marks_at _ mkMs_len k (lk + 70) i 1 hil (by omega))
                  have hd2 : decide ((i : Int) < (lk : Int) + 70) = true := by simp; omega
                  have HI := Lib.hid hil
                  clear hP hom
                  go_upto_region 27 with fail
                  have hB : Below wr.heap.size wr (wr.alloc (.cells #[.int .u8 (mkB k i), .bool true] 35)) := (Below.refl _ wr).alloc (Nat.le_refl _) _
                  have hX := heap_alloc_new wr (.cells #[.int .u8 (mkB k i), .bool true] 35)
                  obtain ⟨bx, hbx⟩ : ∃ bx, wr.heap.size = bx := ⟨_, rfl⟩
                  have HBX := Lib.hid hbx
                  rw [hbx] at hB hX ⊢
                  generalize wr.alloc (.cells #[.int .u8 (mkB k i), .bool true] 35) = w2 at hB hX ⊢
                  have HW := Lib.hid (And.intro hB hX)
                  have HCE : Hid (∀ w', Below bx wr w' ∧ w'.heap[bx]? = some (.cells #[.int .u8 (mkB k i), .bool true] 35 (0, 0)) → (w'.cell? ⟨bx, 0, none⟩ = some (.int .u8 (mkB k i)) ∧ w'.cell? ⟨bx, 1, none⟩ = some (.bool true)) ∧ (w'.frozen? ⟨bx, 0, none⟩ = false ∧ w'.frozen? ⟨bx, 1, none⟩ = false) ∧ PM w w' base bg n T (.slice bb n bc) (.slice a5 n c5) (.slice (some ⟨g6, 0, none⟩) n c6) vs len ones mores) := Lib.hid fun w' h =>
                    ⟨⟨by rw [cell_of_row w' bx 0 _ _ (0, 0) h.2]; rfl, by rw [cell_of_row w' bx 1 _ _ (0, 0) h.2]; rfl⟩, ⟨frozen_of_row w' bx 0 _ _ h.2, frozen_of_row w' bx 1 _ _ h.2⟩, HP.out.below HBAG.out hbase (by rw [HBX.out]; exact h.1)⟩
                  have HSET : Hid (∀ w', Below bx wr w' ∧ w'.heap[bx]? = some (.cells #[.int .u8 (mkB k i), .bool true] 35 (0, 0)) → Below bx wr ((w'.setCell ⟨bx, 0, none⟩ (.int .u8 (mkB k i))).setCell ⟨bx, 1, none⟩ (.bool true)) ∧ ((w'.setCell ⟨bx, 0, none⟩ (.int .u8 (mkB k i))).setCell ⟨bx, 1, none⟩ (.bool true)).heap[bx]? = some (.cells #[.int .u8 (mkB k i), .bool true] 35 (0, 0))) := Lib.hid fun w' h =>
                    ⟨(h.1.setCell (Nat.le_refl _) _).setCell (Nat.le_refl _) _, heap_setCell_same _ bx 1 _ _ _ (heap_setCell_same w' bx 0 _ _ _ h.2)⟩
                  clear hB hX hbx hc6 hx0 hx1
                  have hP := (HCE.out w2 HW.out).2.2
                  obtain ⟨gb, cb, he, hbc⟩ := own_some hP.l.b (by have := HLT.out; omega)
                  simp only [Value.slice.injEq] at he
                  obtain ⟨rfl, -, rfl⟩ := he
                  obtain ⟨av, cv, hv⟩ := own_shape (hP.g.b.own k HLT.out)
                  have HAV := Lib.hid hv
                  have HRD : Hid (∀ w', PM w w' base bg n T (.slice (some ⟨gb, 0, none⟩) n bc) (.slice a5 n c5) (.slice (some ⟨g6, 0, none⟩) n c6) vs len ones mores → w'.cell? ⟨bg, 4, none⟩ = some (.slice (some ⟨gb, 0, none⟩) n bc) ∧ w'.cell? ⟨gb, k, none⟩ = some (.slice av lk cv) ∧ w'.cell? ⟨g6, k, none⟩ = some (.slice (some ⟨gm, 0, none⟩) (lk + 70) cm) ∧ w'.cell? ⟨gm, i * 2, none⟩ = some (.int .u8 (mkB k i)) ∧ w'.cell? ⟨gm, i * 2 + 1, none⟩ = some (.bool true)) := Lib.hid fun w' hP => by
                    have hom := hP.g.more k HLT.out
                    rw [HMM.out, HLK.out] at hom
                    refine ⟨((hP.f.at_ HBAG.out).cell 4).trans HF4.out, ?_, ?_, (World.ownsRow.cellAt hom (i * 2 + 0) (by have := HI.out; omega)).trans (marks_at _ mkMs_len k (lk + 70) i 0 HI.out (by omega)), (World.ownsRow.cellAt hom (i * 2 + 1) (by have := HI.out; omega)).trans (marks_at _ mkMs_len k (lk + 70) i 1 HI.out (by omega))⟩
                    · rw [← HLK.out, ← HAV.out]
                      exact (row_cell hP.l.b k HLT.out).trans (firstN_at vs n k HLT.out)
                    · rw [← HLK.out, ← HMM.out]
                      exact (row_cell hP.l.m k HLT.out).trans (firstN_at mores n k HLT.out)
                  obtain ⟨r0, r1, -, -, -⟩ := HRD.out w2 hP
                  obtain ⟨⟨b0, b1⟩, ⟨f0, f1⟩, -⟩ := HCE.out w2 HW.out
                  clear hv
                  by_cases h1 : i < lk
                  · have hd3 : decide ((i : Int) < (lk : Int)) = true := by simp; omega
                    have hov := hP.g.b.own k HLT.out
                    rw [HAV.out, HLK.out] at hov
                    obtain ⟨gv, cb, he, hvc⟩ := own_someG hov (by omega)
                    simp only [Value.slice.injEq] at he
                    obtain ⟨rfl, -, rfl⟩ := he
                    have y0 : w2.cell? ⟨gv, i * 2, none⟩ = some (.int .u8 (mkB k i)) := (World.ownsRow.cellAt hov (i * 2 + 0) (by omega)).trans (marks_at _ mkMs_len k lk i 0 h1 (by omega))
                    have y1 : w2.cell? ⟨gv, i * 2 + 1, none⟩ = some (.bool true) := (World.ownsRow.cellAt hov (i * 2 + 1) (by omega)).trans (marks_at _ mkMs_len k lk i 1 h1 (by omega))
                    have HS := Lib.hid (HSET.out w2 HW.out)
                    clear hP hov
                    go_upto_region 29 with fail
                    have hd4 : ((i : Int) == (lk : Int)) = false := by simp; omega
                    generalize (w2.setCell ⟨bx, 0, none⟩ (.int .u8 (mkB k i))).setCell ⟨bx, 1, none⟩ (.bool true) = w3 at HS ⊢
                    clear r0 r1 b0 b1 f0 f1 y0 y1
                    have hP3 := (HCE.out w3 HS.out).2.2
                    obtain ⟨r0, r1, r2, r3, r4⟩ := HRD.out w3 hP3
                    obtain ⟨⟨b0, b1⟩, ⟨f0, f1⟩, -⟩ := HCE.out w3 HS.out
                    have hmk : IntKind.u8.wrap (31 * (k : Int) + 7 * (i : Int) + 3) = mkB k i := rfl
                    have HS4 := Lib.hid (HSET.out w3 HS.out)
                    clear hP3
                    go_upto_region 33 with fail
                    generalize (w3.setCell ⟨bx, 0, none⟩ (.int .u8 (mkB k i))).setCell ⟨bx, 1, none⟩ (.bool true) = w4 at HS4 ⊢
                    clear r0 r1 r2 r3 r4 b0 b1 f0 f1
                    obtain ⟨⟨b0, b1⟩, -, -⟩ := HCE.out w4 HS4.out
                    go_wp2_with fail
                    go_roundw
                    case rel => exact ⟨i + 1, by have := HI.out; omega, by go_num, (HCE.out w4 HS4.out).2.2⟩
                    case measure => simp [intOf]; omega
                  · have hd3 : decide ((i : Int) < (lk : Int)) = false := by simp; omega
                    by_cases h2 : i = lk
                    · have hd4 : ((i : Int) == (lk : Int)) = true := by simp; omega
                      obtain ⟨g5, cb, he, h5c⟩ := own_some hP.l.o (by have := HLT.out; omega)
                      simp only [Value.slice.injEq] at he
                      obtain ⟨rfl, -, rfl⟩ := he
                      have hoo := hP.g.one k HLT.out
                      obtain ⟨go1, co, ho, hoc⟩ := own_someG hoo (by omega)
                      rw [ho, HLK.out] at hoo
                      have o0 : w2.cell? ⟨g5, k, none⟩ = some (.slice (some ⟨go1, 0, none⟩) (lk + 1) co) := by
                        rw [← HLK.out, ← ho]
                        exact (row_cell hP.l.o k HLT.out).trans (firstN_at ones n k HLT.out)
                      have y0 : w2.cell? ⟨go1, i * 2, none⟩ = some (.int .u8 (mkB k i)) := (World.ownsRow.cellAt hoo (i * 2 + 0) (by omega)).trans (marks_at _ mkMs_len k (lk + 1) i 0 (by omega) (by omega))
                      have y1 : w2.cell? ⟨go1, i * 2 + 1, none⟩ = some (.bool true) := (World.ownsRow.cellAt hoo (i * 2 + 1) (by omega)).trans (marks_at _ mkMs_len k (lk + 1) i 1 (by omega) (by omega))
                      have HS := Lib.hid (HSET.out w2 HW.out)
                      have h2' : i ≤ lk := by omega
                      have h2i : (i : Int) < ((lk + 1 : Nat) : Int) := by omega
                      clear hP hoo ho h2
                      go_upto_region 31 with fail
                      generalize (w2.setCell ⟨bx, 0, none⟩ (.int .u8 (mkB k i))).setCell ⟨bx, 1, none⟩ (.bool true) = w3 at HS ⊢
                      clear r0 r1 b0 b1 f0 f1 y0 y1 o0
                      have hP3 := (HCE.out w3 HS.out).2.2
                      obtain ⟨r0, r1, r2, r3, r4⟩ := HRD.out w3 hP3
                      obtain ⟨⟨b0, b1⟩, ⟨f0, f1⟩, -⟩ := HCE.out w3 HS.out
                      have hmk : IntKind.u8.wrap (31 * (k : Int) + 7 * (i : Int) + 3) = mkB k i := rfl
                      have HS4 := Lib.hid (HSET.out w3 HS.out)
                      clear hP3
                      go_upto_region 33 with fail
                      generalize (w3.setCell ⟨bx, 0, none⟩ (.int .u8 (mkB k i))).setCell ⟨bx, 1, none⟩ (.bool true) = w4 at HS4 ⊢
                      clear r0 r1 r2 r3 r4 b0 b1 f0 f1
                      obtain ⟨⟨b0, b1⟩, -, -⟩ := HCE.out w4 HS4.out
                      go_wp2_with fail
                      go_roundw
                      case rel => exact ⟨i + 1, by have := HI.out; omega, by go_num, (HCE.out w4 HS4.out).2.2⟩
                      case measure => simp [intOf]; omega
                    · have hd4 : ((i : Int) == (lk : Int)) = false := by simp; omega
                      have HS := Lib.hid HW.out
                      clear hP r0 r1 b0 b1 f0 f1
                      generalize w2 = w3 at HS ⊢
                      have hP3 := (HCE.out w3 HS.out).2.2
                      obtain ⟨r0, r1, r2, r3, r4⟩ := HRD.out w3 hP3
                      obtain ⟨⟨b0, b1⟩, ⟨f0, f1⟩, -⟩ := HCE.out w3 HS.out
                      have hmk : IntKind.u8.wrap (31 * (k : Int) + 7 * (i : Int) + 3) = mkB k i := rfl
                      have HS4 := Lib.hid (HSET.out w3 HS.out)
                      clear hP3
                      go_upto_region 33 with fail
                      generalize (w3.setCell ⟨bx, 0, none⟩ (.int .u8 (mkB k i))).setCell ⟨bx, 1, none⟩ (.bool true) = w4 at HS4 ⊢
                      clear r0 r1 r2 r3 r4 b0 b1 f0 f1
                      obtain ⟨⟨b0, b1⟩, -, -⟩ := HCE.out w4 HS4.out
                      go_wp2_with fail
                      go_roundw
                      case rel => exact ⟨i + 1, by have := HI.out; omega, by go_num, (HCE.out w4 HS4.out).2.2⟩
                      case measure => simp [intOf]; omega
                · obtain rfl : i = lk + 70 := by omega
                  clear hP
                  go_wp2_with fail
                  go_roundw
                  case rel => exact ⟨k + 1, by have := HLT.out; omega, by go_num, HP.out⟩
                  case measure => simp [intOf]; omega
            · obtain rfl : k = n := by omega
              have HF := Lib.hid hP.f
              clear hP
              go_wp2_with fail
              go_ret
              exact ⟨rfl, HF.out⟩
end Go.Proofs.YthegepiafodpjaaDoor

namespace Go.Proofs.YthegepiafodpjaaDoor
open Go.RowKit

set_option maxRecDepth 100000 in
theorem addMarks_any (w : World) (base bg n : Nat) (fs : List Value) (bv : Value) (us : List Value) (ua : Option Addr) (un uc : Nat) (hbag : BagAt w bg fs) (hd : fs[4]? = some bv) (hown : w.ownsRow base 22 1 bv n us) (hm : n < 400) (hb : base ≤ w.heap.size) :
    Calls Tryd.prog 18 #[.pointer (some ⟨bg, 0, none⟩), .slice ua un uc] w (AddedKPost 4 22 w base bg n fs bv us (.slice ua un uc)) := by
  obtain ⟨b, c, rfl⟩ := own_shape hown
  have hc : w.cell? ⟨bg, 4, none⟩ = some (.slice b n c) := (hbag.cell 4).trans hd
  have HB := Lib.hid hbag
  have HD := Lib.hid hd
  have HO := Lib.hid hown
  have hm' : decide ((n : Int) < 400) = true := by simp; omega
  clear hbag hd
  go_enter Tryd.func18, Tryd.ntmps18
  go_wp2_with (at_builtin; refine append_lg rfl (.tmp 14) (.tmp 16) 43 22 rfl Tryd.underlying43 infoLMk base _ n us _ rfl hown rfl rfl (by omega) hb ?_)
  intro v' w1 hov hold hp
  have hB1 := HB.out.keepT (KeepT.of_app hown hp neLMG)
  obtain ⟨b', c', rfl⟩ := own_shape hov
  have hc1 : w1.cell? ⟨bg, 4, none⟩ = some (.slice b n c) := (hB1.cell 4).trans HD.out
  have hf1 := hB1.frozen 4
  have HA : Hid (AddedK 4 22 w (w1.setCell ⟨bg, 4, none⟩ (.slice b' (n + 1) c')) base bg n fs (.slice b n c) (.slice b' (n + 1) c') us (.slice ua un uc)) := Lib.hid
    (AddedK.of_app HB.out neLMG hown hov hp)
  clear hov hold hp hB1 hc hown HB HD HO
  go_wp2_with fail
  go_end0
  exact ⟨rfl, _, HA.out⟩

set_option maxRecDepth 100000 in
set_option maxHeartbeats 1000000 in
theorem apart_marks (T : Nat → Prop) (w : World) (base bg m : Nat) (fs : List Value) (bv : Value) (vs : Nat → Value) (len : Nat → Nat) (C : Nat → List Value) (hbag : BagAt w bg fs) (hz : ∀ i, i < 19 → i ≠ 4 → fs[i]? = some (.slice none 0 0)) (hK : Kd w base 4 22 35 2 70368744175616 m fs bv vs len C) (hm : m ≤ 400)
    (hbase : base ≤ w.heap.size) (hT : ∀ k, T k → k < w.heap.size) (hTV : ∀ j, j < m → FarT T (vs j)) :
    Calls Tryd.prog 19 #[.pointer (some ⟨bg, 0, none⟩)] w fun e w' => e = .returned (.bool true) ∧ FrT w w' base bg T := by
  have HA := Lib.hid (apartMarks_T T w base bg m bv fs vs len C hbag hK.hd hK.own hm hK.b hK.lim hbase hT hTV)
  have HBAG := Lib.hid hbag
  have HN0 : ∀ i : Nat, i < 19 → i ≠ 4 → w.cell? ⟨bg, i, none⟩ = some (.slice none 0 0) := fun i hi hne => (hbag.cell i).trans (hz i hi hne)
  have HN0 := Lib.hid HN0
  have HZ := Lib.hid hz
  clear hbag hK hz
  go_enter Tryd.func19, Tryd.ntmps19
  go_wp2_with fail
  refine (apartBytes_nil w bg (HN0.out 0 (by omega) (by omega))).mono ?_
  rintro e w' ⟨rfl, rfl⟩
  go_wp2_with fail
  refine (apartInts_nil w bg (HN0.out 1 (by omega) (by omega))).mono ?_
  rintro e w' ⟨rfl, rfl⟩
  go_wp2_with fail
  refine (apartBools_nil w bg (HN0.out 2 (by omega) (by omega))).mono ?_
  rintro e w' ⟨rfl, rfl⟩
  go_wp2_with fail
  refine (apartTexts_nil w bg (HN0.out 3 (by omega) (by omega))).mono ?_
  rintro e w' ⟨rfl, rfl⟩
  go_wp2_with fail
  refine HA.out.mono ?_
  rintro e w1 ⟨rfl, hF⟩
  have HF := Lib.hid hF
  have HN : ∀ i : Nat, i < 19 → i ≠ 4 → w1.cell? ⟨bg, i, none⟩ = some (.slice none 0 0) := fun i hi hne => ((hF.at_ HBAG.out).cell i).trans (HZ.out i hi hne)
  have HN := Lib.hid HN
  clear hF HA HN0
  go_wp2_with fail
  refine (apartSpans_nil w1 bg (HN.out 5 (by omega) (by omega))).mono ?_
  rintro e w' ⟨rfl, rfl⟩
  go_wp2_with fail
  refine (apartRuns_nil w1 bg (HN.out 6 (by omega) (by omega))).mono ?_
  rintro e w' ⟨rfl, rfl⟩
  go_wp2_with fail
  refine (apartClasses_nil w1 bg (HN.out 7 (by omega) (by omega))).mono ?_
  rintro e w' ⟨rfl, rfl⟩
  go_wp2_with fail
  refine (apartNodes_nil w1 bg (HN.out 8 (by omega) (by omega))).mono ?_
  rintro e w' ⟨rfl, rfl⟩
  go_wp2_with fail
  refine (apartInstrs_nil w1 bg (HN.out 9 (by omega) (by omega))).mono ?_
  rintro e w' ⟨rfl, rfl⟩
  go_wp2_with fail
  refine (apartFaults_nil w1 bg (HN.out 10 (by omega) (by omega))).mono ?_
  rintro e w' ⟨rfl, rfl⟩
  go_wp2_with fail
  refine (apartNotes_nil w1 bg (HN.out 11 (by omega) (by omega))).mono ?_
  rintro e w' ⟨rfl, rfl⟩
  go_wp2_with fail
  refine (apartParts_nil w1 bg (HN.out 12 (by omega) (by omega))).mono ?_
  rintro e w' ⟨rfl, rfl⟩
  go_wp2_with fail
  refine (apartRows_nil w1 bg (HN.out 13 (by omega) (by omega))).mono ?_
  rintro e w' ⟨rfl, rfl⟩
  go_wp2_with fail
  refine (apartIntss_nil w1 bg (HN.out 14 (by omega) (by omega))).mono ?_
  rintro e w' ⟨rfl, rfl⟩
  go_wp2_with fail
  refine (apartSpanss_nil w1 bg (HN.out 15 (by omega) (by omega))).mono ?_
  rintro e w' ⟨rfl, rfl⟩
  go_wp2_with fail
  refine (apartPieces_nil w1 bg (HN.out 16 (by omega) (by omega))).mono ?_
  rintro e w' ⟨rfl, rfl⟩
  go_wp2_with fail
  refine (apartFiles_nil w1 bg (HN.out 17 (by omega) (by omega))).mono ?_
  rintro e w' ⟨rfl, rfl⟩
  go_wp2_with fail
  refine (apartCmds_nil w1 bg (HN.out 18 (by omega) (by omega))).mono ?_
  rintro e w' ⟨rfl, rfl⟩
  go_wp2_with fail
  go_ret
  exact ⟨rfl, HF.out⟩
end Go.Proofs.YthegepiafodpjaaDoor

namespace Go.Proofs.YthegepiafodpjaaDoor
open Go.RowKit

abbrev bagZero : Obj := .cells #[.slice none 0 0, .slice none 0 0, .slice none 0 0, .slice none 0 0, .slice none 0 0, .slice none 0 0, .slice none 0 0, .slice none 0 0, .slice none 0 0, .slice none 0 0, .slice none 0 0, .slice none 0 0, .slice none 0 0, .slice none 0 0, .slice none 0 0, .slice none 0 0, .slice none 0 0, .slice none 0 0, .slice none 0 0] 59
/-- m lists lie in the bag; those of pd wait for it. -/
structure GP (W w : World) (bg m : Nat) (bv : Value) (vs : Nat → Value) (len : Nat → Nat) (C : Nat → List Value) (pd : List (Value × List Int)) : Prop where
  gi : GI w W.heap.size bg m bv vs len C
  bel : Below W.heap.size W w
  own : ∀ x ∈ pd, OwnB w W.heap.size x.1 x.2 ∧ x.2.length ≤ 140737488351232
  far : ∀ x ∈ pd, ∀ k, x.1.ownBlock = some k → ¬ GF bg m bv vs k
  ap : pd.Pairwise fun x y => Apart x.1 y.1
section
variable {W w w' : World} {bg m : Nat} {bv : Value} {vs : Nat → Value} {len : Nat → Nat} {C : Nat → List Value} {pd : List (Value × List Int)}
theorem GP.below (t : GP W w bg m bv vs len C pd) (hb : Below w.heap.size w w') : GP W w' bg m bv vs len C pd :=
  { t with gi := t.gi.below hb, bel := t.bel.trans (hb.mono t.bel.size), own := fun x hx => ⟨(t.own x hx).1.below hb, (t.own x hx).2⟩ }
theorem GP.start {w : World} (hB : Below W.heap.size W w) (own : ∀ x ∈ pd, OwnB w W.heap.size x.1 x.2 ∧ x.2.length ≤ 140737488351232) (ap : pd.Pairwise fun x y => Apart x.1 y.1) :
    GP W (w.alloc bagZero) w.heap.size 0 (.slice none 0 0) (fun _ => undef) (fun _ => 0) (fun _ => []) pd := by
  have hb := (Below.refl w.heap.size w).alloc (Nat.le_refl _) bagZero
  have g : GI (w.alloc bagZero) W.heap.size w.heap.size 0 (.slice none 0 0) (fun _ => undef) (fun _ => 0) (fun _ => []) := GI.new w W.heap.size hB.size _ _ _
  refine ⟨g, hB.trans (hb.mono hB.size), fun x hx => ⟨(own x hx).1.below hb, (own x hx).2⟩, fun x hx k hk e => ?_, ap⟩
  have := (World.ownsRow.lt (own x hx).1 k hk).2
  rcases e with e | e | ⟨j, hj, -⟩
  · omega
  · simp [Value.ownBlock] at e
  · omega
theorem GP.twin (t : GP W w bg m bv vs len C pd) {v : Value} {l : List Int} (ho : OwnB w' w.heap.size v l) (hb : Below w.heap.size w w') (hl : l.length ≤ 140737488351232) : GP W w' bg m bv vs len C (pd ++ [(v, l)]) := by
  have tb := t.below hb
  have hv : ∀ k, v.ownBlock = some k → w.heap.size ≤ k := ho.from (Nat.le_refl _)
  refine { tb with own := fun x hx => ?_, far := fun x hx k hk => ?_, ap := ?_ }
  · rcases List.mem_append.1 hx with e | e
    · exact tb.own x e
    · obtain rfl := List.mem_singleton.1 e
      exact ⟨ho.mono t.bel.size, hl⟩
  · rcases List.mem_append.1 hx with e | e
    · exact tb.far x e k hk
    · obtain rfl := List.mem_singleton.1 e
      have := hv k hk
      exact fun e => by have := t.gi.lt k e; omega
  · refine List.pairwise_append.2 ⟨t.ap, List.pairwise_singleton _ _, fun x hx y hy => ?_⟩
    obtain rfl := List.mem_singleton.1 hy
    intro k h1 h2
    have h3 := (World.ownsRow.lt (t.own x hx).1 k h1).2
    have h4 := hv k h2
    omega
theorem GP.add {v : Value} {l : List Int} (t : GP W w bg m bv vs len C ((v, l) :: pd)) {e : Ending} (hP : AddGPost w W.heap.size bg m bv vs len C v l e w') :
    e = .returned undef ∧ ∃ bv' vs' len' C', GP W w' bg (m + 1) bv' vs' len' C' pd := by
  obtain ⟨he, bv', g, hk, hn, hbel, hsz⟩ := hP
  refine ⟨he, bv', _, _, _, g, hbel _ _ t.bel (Nat.le_refl _), fun x hx => ⟨?_, (t.own x (List.mem_cons_of_mem _ hx)).2⟩, fun x hx k e e2 => ?_, (List.pairwise_cons.1 t.ap).2⟩
  · have ho := (t.own x (List.mem_cons_of_mem _ hx)).1
    exact own_blk ho fun k e => hk k (World.ownsRow.lt ho k e).2 (t.far x (List.mem_cons_of_mem _ hx) k e)
  · rcases hn k e2 with e3 | e3 | e3
    · exact t.far x (List.mem_cons_of_mem _ hx) k e e3
    · exact (List.pairwise_cons.1 t.ap).1 x hx k e3 e
    · have := (World.ownsRow.lt (t.own x (List.mem_cons_of_mem _ hx)).1 k e).2; omega
theorem GP.apart (t : GP W w bg m bv vs len C pd) (hm : m ≤ 400) :
    Calls Tryd.prog 19 #[.pointer (some ⟨bg, 0, none⟩)] w fun e w' => e = .returned (.bool true) ∧ Below W.heap.size W w' :=
  (apartG (fun _ => False) t.gi t.bel.size hm (fun _ h => h.elim) (fun _ _ h => h)).mono fun _ _ ⟨e, f⟩ => ⟨e, f.bel _ _ t.bel (Nat.le_refl _)⟩
end
end Go.Proofs.YthegepiafodpjaaDoor

namespace Go.Proofs.YthegepiafodpjaaDoor
open Go.RowKit

structure GM (W w : World) (bg m : Nat) (fs : List Value) (bv : Value) (vs : Nat → Value) (len : Nat → Nat) (C : Nat → List Value) : Prop where
  bag : BagAt w bg fs
  flen : fs.length = 19
  z : ∀ i, i < 19 → i ≠ 4 → fs[i]? = some (.slice none 0 0)
  kd : Kd w W.heap.size 4 22 35 2 70368744175616 m fs bv vs len C
  lo : W.heap.size ≤ bg
  bel : Below W.heap.size W w
section
variable {W w w' : World} {bg m : Nat} {fs : List Value} {bv : Value} {vs : Nat → Value} {len : Nat → Nat} {C : Nat → List Value} {l : List Mk}
theorem GM.start (hB : Below W.heap.size W w) : GM W (w.alloc bagZero) w.heap.size 0 heads0 (.slice none 0 0) (fun _ => undef) (fun _ => 0) (fun _ => []) :=
  ⟨BagAt.new0 w, heads0_len, fun i hi _ => heads0_at i hi, Kd.none _ _ _ _ _ _ _ _ (heads0_at 4 (by omega)) _ _ _, hB.size, hB.alloc hB.size _⟩
theorem GM.add (h : GM W w bg m fs bv vs len C) (hm : m < 400) {ua : Option Addr} {un uc : Nat} (hv : OwnM w W.heap.size (.slice ua un uc) l) (hn : l.length ≤ 70368744175616) (hap : ∀ j, j < m → Apart (vs j) (.slice ua un uc)) :
    Calls Tryd.prog 18 #[.pointer (some ⟨bg, 0, none⟩), .slice ua un uc] w fun e w' => e = .returned undef ∧ KeepT 35 w w' ∧ ∃ fs' bv', GM W w' bg (m + 1) fs' bv' (snoc vs m (.slice ua un uc)) (snoc len m l.length) (snoc C m (mkCells l)) := by
  refine (addMarks_any w W.heap.size bg m fs bv (firstN vs m) ua un uc h.bag h.kd.hd h.kd.own hm h.bel.size).mono ?_
  rintro e w' ⟨rfl, bv', hA⟩
  refine ⟨rfl, hA.keep _ neML neMG, _, bv', hA.bag, by rw [List.length_set, h.flen], fun i hi hne => ?_, h.kd.add hA (by rw [h.flen]; omega) neML neMG hv hn hap, h.lo, hA.bel _ _ h.bel (Nat.le_refl _) h.lo⟩
  rw [List.getElem?_set_ne (fun e => hne e.symm)]
  exact h.z i hi hne
theorem GM.apart (h : GM W w bg m fs bv vs len C) (hm : m ≤ 400) :
    Calls Tryd.prog 19 #[.pointer (some ⟨bg, 0, none⟩)] w fun e w' => e = .returned (.bool true) ∧ Below W.heap.size W w' :=
  (apart_marks (fun _ => False) w W.heap.size bg m fs bv vs len C h.bag h.z h.kd hm h.bel.size (fun _ h => h.elim) (fun _ _ _ h => h.elim)).mono fun _ _ ⟨e, f⟩ => ⟨e, f.bel _ _ h.bel (Nat.le_refl _)⟩
end
end Go.Proofs.YthegepiafodpjaaDoor
