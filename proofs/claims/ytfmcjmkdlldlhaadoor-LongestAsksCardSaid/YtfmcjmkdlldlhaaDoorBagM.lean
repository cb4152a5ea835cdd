/-
  Lists in blocks of their own: what an append to one leaves of the others. The marks that are laid into them.
-/
import Derived.Test.YtfmcjmkdlldlhaaDoorApp
namespace Go.Proofs.YtfmcjmkdlldlhaaDoor
open Go.RowKit

theorem apart_types {w : World} {b1 b2 s1 s2 n1 n2 : Nat} {e1 e2 : TypeId} {u v : Value} {xs ys : List Value} (h1 : w.ownsRow b1 e1 s1 u n1 xs) (h2 : w.ownsRow b2 e2 s2 v n2 ys) (hne : e1 ≠ e2) : Apart u v := by
  intro k hu hv
  rcases h1.2 with ⟨rfl, _⟩ | ⟨g, cap, cur, rfl, _, hg, _⟩
  · simp [Value.ownBlock] at hu
  · rcases h2.2 with ⟨rfl, _⟩ | ⟨g', cap', cur', rfl, _, hg', _⟩
    · simp [Value.ownBlock] at hv
    · simp only [Value.ownBlock, Option.some.injEq] at hu hv
      rw [hu] at hg
      rw [hv, hg] at hg'
      simp only [Option.some.injEq, Obj.cells.injEq] at hg'
      exact hne hg'.2.1
theorem own_unique {w : World} {b1 b2 s n : Nat} {e : TypeId} {v : Value} {xs ys : List Value} (h1 : w.ownsRow b1 e s v n xs) (h2 : w.ownsRow b2 e s v n ys) : xs = ys := by
  rcases h1.2 with ⟨rfl, h0⟩ | ⟨g, cap, cur, rfl, _, hg, _, _, _, ht⟩
  · subst h0
    have e1 := h1.1
    have e2 := h2.1
    rw [List.eq_nil_of_length_eq_zero (by omega : xs.length = 0), List.eq_nil_of_length_eq_zero (by omega : ys.length = 0)]
  · rcases h2.2 with ⟨h, _⟩ | ⟨g', cap', cur', h, _, hg', _, _, _, ht'⟩
    · simp at h
    · simp only [Value.slice.injEq, Option.some.injEq, Addr.mk.injEq, and_true, true_and] at h
      obtain ⟨rfl, rfl⟩ := h
      rw [hg] at hg'
      simp only [Option.some.injEq, Obj.cells.injEq, and_true] at hg'
      rw [← ht, ← ht', hg']
theorem own_len {w : World} {b s n n1 : Nat} {e : TypeId} {a : Option Addr} {cap : Nat} {xs : List Value} (h : w.ownsRow b e s (.slice a n1 cap) n xs) : n1 = n := by
  rcases h.2 with ⟨h1, h0⟩ | ⟨g, cap', cur, h1, _⟩
  · simp only [Value.slice.injEq] at h1; omega
  · simp only [Value.slice.injEq] at h1; exact h1.2.1
theorem own_pre {w : World} {base size n n0 cap : Nat} {e : TypeId} {a : Option Addr} {xs : List Value} (h : w.ownsRow base e size (.slice a n cap) n xs) (hn : n0 ≤ n) : w.ownsRow base e size (.slice a n0 cap) n0 (xs.take (n0 * size)) := by
  have hle : n0 * size ≤ n * size := Nat.mul_le_mul_right _ hn
  refine ⟨by rw [List.length_take, h.1]; omega, ?_⟩
  rcases h.2 with ⟨h1, h2⟩ | ⟨g, cap', cur, h1, h2, h3, h4, h5, h6, h7⟩
  · simp only [Value.slice.injEq] at h1
    obtain ⟨rfl, _, rfl⟩ := h1
    exact .inl ⟨by rw [show n0 = 0 by omega], by omega⟩
  · simp only [Value.slice.injEq] at h1
    obtain ⟨rfl, _, rfl⟩ := h1
    exact .inr ⟨g, cap, cur, rfl, h2, h3, by omega, h5, h6, by rw [← h7, List.take_take, Nat.min_eq_left hle]⟩

/-- Blocks of cells of type e stay. -/
def KeepT (e : TypeId) (w w' : World) : Prop := ∀ (k : Nat) (cur : Array Value), w.heap[k]? = some (Obj.cells cur e (0, 0)) → w'.heap[k]? = w.heap[k]?
theorem KeepT.own {e : TypeId} {w w' : World} (hk : KeepT e w w') {base size n : Nat} {v : Value} {xs : List Value} (h : w.ownsRow base e size v n xs) : w'.ownsRow base e size v n xs :=
  ⟨h.1, h.2.imp_right fun ⟨g, cap, cur, ev, hb, hg, r⟩ => ⟨g, cap, cur, ev, hb, (hk g cur hg).trans hg, r⟩⟩
theorem KeepT.of_below {e : TypeId} {w w' : World} (hb : Below w.heap.size w w') : KeepT e w w' := fun k _ hk => hb.block k (Array.getElem?_eq_some_iff.1 hk).1
theorem KeepT.refl (e : TypeId) (w : World) : KeepT e w w := fun _ _ _ => rfl
theorem KeepT.trans {e : TypeId} {w w1 w2 : World} (h : KeepT e w w1) (h2 : KeepT e w1 w2) : KeepT e w w2 := fun k cur hk => (h2 k cur ((h k cur hk).trans hk)).trans (h k cur hk)
theorem KeepT.of_app {e e2 : TypeId} {w w' : World} {b b2 s n : Nat} {v v' : Value} {xs : List Value} (hv : w.ownsRow b e2 s v n xs) (hp : AppPost w w' b2 v v') (hne : e2 ≠ e) : KeepT e w w' := fun k cur hk =>
  hp.block k (Array.getElem?_eq_some_iff.1 hk).1 fun h => by
    rcases hv.2 with ⟨rfl, _⟩ | ⟨g, cap, cur', rfl, _, hg, _⟩
    · simp [Value.ownBlock] at h
    · simp only [Value.ownBlock, Option.some.injEq] at h
      subst h
      rw [hg] at hk
      simp only [Option.some.injEq, Obj.cells.injEq] at hk
      exact hne hk.2.1

/-- u is v's beginning, n0 elements, or apart from it. -/
def SubOf (u v : Value) (n0 : Nat) : Prop := Apart v u ∨ ∃ a n cap, v = .slice a n cap ∧ u = .slice a n0 cap ∧ n0 ≤ n
theorem SubOf.of_own {w : World} {base size n : Nat} {e : TypeId} {v : Value} {xs : List Value} (h : w.ownsRow base e size v n xs) : SubOf v v n := by
  obtain ⟨b, c, rfl⟩ := own_shape h
  exact .inr ⟨b, n, c, rfl, rfl, Nat.le_refl _⟩
theorem sub_step {w w' : World} {base size n m n0 : Nat} {e : TypeId} {u v v' : Value} {xs news ys : List Value} (hsz : 0 < size) (hm : 0 < m) (hv : w.ownsRow base e size v n xs) (hv' : w'.ownsRow base e size v' (n + m) (xs ++ news)) (hold : w'.ownsRow base e size v n xs)
    (hp : AppPost w w' base v v') (hu : w.ownsRow base e size u n0 ys) (hs : SubOf u v n0) : w'.ownsRow base e size u n0 ys ∧ SubOf u v' n0 := by
  rcases hs with hs | ⟨a, n1, cap, rfl, rfl, hle⟩
  · have := hp.other base e size ys u n0 hu hs
    exact ⟨this.1, .inl this.2⟩
  · obtain rfl := own_len hv
    have h1 := own_pre hold hle
    rw [own_unique (own_pre hv hle) hu] at h1
    refine ⟨h1, ?_⟩
    rcases hv'.2 with ⟨_, h0⟩ | ⟨g, cap', cur, rfl, _, hg, _, _, hcs, _⟩
    · omega
    · rcases hp.new g rfl with hn | hn
      · cases a with
        | none => simp [Value.ownBlock] at hn
        | some ad =>
          rcases hold.2 with ⟨h0, _⟩ | ⟨g2, cap2, cur2, he, _, hg2, _, _, hs2, _⟩
          · simp at h0
          · simp only [Value.slice.injEq, Option.some.injEq] at he
            obtain ⟨rfl, _, rfl⟩ := he
            simp only [Value.ownBlock, Option.some.injEq] at hn
            subst hn
            rw [hg2] at hg
            simp only [Option.some.injEq, Obj.cells.injEq, and_true] at hg
            rw [hg, hcs] at hs2
            obtain rfl := Nat.eq_of_mul_eq_mul_right hsz hs2
            exact .inr ⟨_, _, _, rfl, rfl, by omega⟩
      · refine .inl fun k h1 h2 => ?_
        have := (World.ownsRow.lt hu k h2).2
        simp only [Value.ownBlock, Option.some.injEq] at h1
        omega

/-! ### Marks -/
section
variable (mk : Nat → Nat → List Value)
/-- The cells of the first q marks of list k. -/
def marks (k q : Nat) : List Value := (List.range q).flatMap (mk k)
theorem marks_zero (k : Nat) : marks mk k 0 = [] := rfl
theorem marks_succ (k q : Nat) : marks mk k (q + 1) = marks mk k q ++ mk k q := by
  unfold marks
  rw [List.range_succ, List.flatMap_append]
  simp
theorem marks_len {size : Nat} (h : ∀ k i, (mk k i).length = size) (k q : Nat) : (marks mk k q).length = q * size := by
  induction q with
  | zero => simp [marks]
  | succ q ih => rw [marks_succ, List.length_append, ih, h, Nat.succ_mul]
theorem marks_at {size : Nat} (h : ∀ k i, (mk k i).length = size) (k q i j : Nat) (hi : i < q) (hj : j < size) : (marks mk k q)[i * size + j]? = (mk k i)[j]? := by
  induction q with
  | zero => omega
  | succ q ih =>
    rw [marks_succ]
    by_cases hq : i < q
    · have hlt : i * size + j < q * size := by
        have : (i + 1) * size ≤ q * size := Nat.mul_le_mul_right _ hq
        rw [Nat.succ_mul] at this; omega
      rw [List.getElem?_append_left (by rw [marks_len mk h]; exact hlt)]
      exact ih hq
    · obtain rfl : i = q := by omega
      rw [List.getElem?_append_right (by rw [marks_len mk h]; omega), marks_len mk h, Nat.add_sub_cancel_left]
end

/-- m lists, each in a block of its own. -/
structure Bags (w : World) (base : Nat) (e : TypeId) (size m : Nat) (vs : Nat → Value) (len : Nat → Nat) (C : Nat → List Value) : Prop where
  own : ∀ k, k < m → w.ownsRow base e size (vs k) (len k) (C k)
  ap : ∀ j k, j < m → k < m → j ≠ k → Apart (vs j) (vs k)
theorem Bags.keepT {w w' : World} {base : Nat} {e : TypeId} {size m : Nat} {vs : Nat → Value} {len : Nat → Nat} {C : Nat → List Value} (h : Bags w base e size m vs len C) (hk : KeepT e w w') : Bags w' base e size m vs len C :=
  ⟨fun k hm => hk.own (h.own k hm), h.ap⟩

/-- n of the m lists have grown. -/
structure Grown (w : World) (base : Nat) (e : TypeId) (size m : Nat) (mk : Nat → Nat → List Value) (vs : Nat → Value) (len : Nat → Nat) (n : Nat) (ones mores : Nat → Value) : Prop where
  b : Bags w base e size m vs len (fun k => marks mk k (len k))
  one : ∀ k, k < n → w.ownsRow base e size (ones k) (len k + 1) (marks mk k (len k + 1))
  more : ∀ k, k < n → w.ownsRow base e size (mores k) (len k + 70) (marks mk k (len k + 70))
  ap : ∀ k j, k < n → n ≤ j → j < m → Apart (ones k) (vs j) ∧ Apart (mores k) (vs j)
theorem Grown.keepT {w w' : World} {base : Nat} {e : TypeId} {size m : Nat} {mk : Nat → Nat → List Value} {vs : Nat → Value} {len : Nat → Nat} {n : Nat} {ones mores : Nat → Value} (h : Grown w base e size m mk vs len n ones mores) (hk : KeepT e w w') : Grown w' base e size m mk vs len n ones mores :=
  ⟨h.b.keepT hk, fun k hn => hk.own (h.one k hn), fun k hn => hk.own (h.more k hn), h.ap⟩

/-- List n is growing: l has i elements, o1 is what it was when it had one more. -/
structure Grows (w : World) (base : Nat) (e : TypeId) (size m : Nat) (mk : Nat → Nat → List Value) (vs : Nat → Value) (len : Nat → Nat) (n : Nat) (ones mores : Nat → Value) (i : Nat) (l o1 : Value) : Prop where
  g : Grown w base e size m mk vs len n ones mores
  own : w.ownsRow base e size l i (marks mk n i)
  sub : SubOf (vs n) l (len n)
  o : len n < i → w.ownsRow base e size o1 (len n + 1) (marks mk n (len n + 1)) ∧ SubOf o1 l (len n + 1) ∧ ∀ j, n < j → j < m → Apart o1 (vs j)
  ap : ∀ k, k < n → Apart l (ones k) ∧ Apart l (mores k)
  apv : ∀ j, j ≠ n → j < m → Apart l (vs j)
section
variable {w w' : World} {base : Nat} {e : TypeId} {size m : Nat} {mk : Nat → Nat → List Value} {vs : Nat → Value} {len : Nat → Nat} {n : Nat} {ones mores : Nat → Value} {i : Nat} {l l' o1 : Value}
theorem Grows.keepT (h : Grows w base e size m mk vs len n ones mores i l o1) (hk : KeepT e w w') : Grows w' base e size m mk vs len n ones mores i l o1 :=
  ⟨h.g.keepT hk, hk.own h.own, h.sub, fun hl => ⟨hk.own (h.o hl).1, (h.o hl).2⟩, h.ap, h.apv⟩
theorem Grown.start (h : Grown w base e size m mk vs len n ones mores) (hn : n < m) : Grows w base e size m mk vs len n ones mores (len n) (vs n) o1 :=
  ⟨h, h.b.own n hn, SubOf.of_own (h.b.own n hn), fun hl => absurd hl (Nat.lt_irrefl _), fun k hk => ⟨(h.ap k n hk (Nat.le_refl _) hn).1.symm, (h.ap k n hk (Nat.le_refl _) hn).2.symm⟩, fun j hj hm => h.b.ap n j hn hm (Ne.symm hj)⟩
theorem Grows.step (h : Grows w base e size m mk vs len n ones mores i l o1) (hsz : 0 < size) (hn : n < m) (hi : len n ≤ i) (hv' : w'.ownsRow base e size l' (i + 1) (marks mk n i ++ mk n i)) (hold : w'.ownsRow base e size l i (marks mk n i)) (hp : AppPost w w' base l l') :
    Grows w' base e size m mk vs len n ones mores (i + 1) l' (if i = len n then l' else o1) := by
  have hvn := sub_step hsz (Nat.one_pos) h.own hv' hold hp (h.g.b.own n hn) h.sub
  have hvj : ∀ j, j ≠ n → j < m → w'.ownsRow base e size (vs j) (len j) (marks mk j (len j)) ∧ Apart l' (vs j) := fun j hj hm => hp.other base e size _ (vs j) _ (h.g.b.own j hm) (h.apv j hj hm)
  have h1 : ∀ k, k < n → w'.ownsRow base e size (ones k) (len k + 1) (marks mk k (len k + 1)) ∧ Apart l' (ones k) := fun k hk => hp.other base e size _ (ones k) _ (h.g.one k hk) (h.ap k hk).1
  have h2 : ∀ k, k < n → w'.ownsRow base e size (mores k) (len k + 70) (marks mk k (len k + 70)) ∧ Apart l' (mores k) := fun k hk => hp.other base e size _ (mores k) _ (h.g.more k hk) (h.ap k hk).2
  rw [← marks_succ] at hv'
  refine ⟨⟨⟨fun k hk => ?_, h.g.b.ap⟩, fun k hk => (h1 k hk).1, fun k hk => (h2 k hk).1, h.g.ap⟩, hv', hvn.2, fun hl => ?_, fun k hk => ⟨(h1 k hk).2, (h2 k hk).2⟩, fun j hj hm => (hvj j hj hm).2⟩
  · by_cases e : k = n
    · subst e; exact hvn.1
    · exact (hvj k e hk).1
  · by_cases e : i = len n
    · rw [if_pos e]
      subst e
      exact ⟨hv', SubOf.of_own hv', fun j hj hm => (hvj j (by omega) hm).2⟩
    · rw [if_neg e]
      obtain ⟨a1, a2, a3⟩ := h.o (by omega)
      have := sub_step hsz (Nat.one_pos) h.own (by rw [← marks_succ]; exact hv') hold hp a1 a2
      exact ⟨this.1, this.2, a3⟩
theorem Grows.done (h : Grows w base e size m mk vs len n ones mores (len n + 70) l o1) (hn : n < m) : Grown w base e size m mk vs len (n + 1) (fun k => if k = n then o1 else ones k) (fun k => if k = n then l else mores k) := by
  obtain ⟨a1, a2, a3⟩ := h.o (by omega)
  refine ⟨h.g.b, fun k hk => ?_, fun k hk => ?_, fun k j hk hj hm => ?_⟩
  · by_cases e : k = n
    · subst e; simp only [if_pos]; exact a1
    · simp only [if_neg e]; exact h.g.one k (by omega)
  · by_cases e : k = n
    · subst e; simp only [if_pos]; exact h.own
    · simp only [if_neg e]; exact h.g.more k (by omega)
  · by_cases e : k = n
    · subst e; simp only [if_pos]; exact ⟨a3 j (by omega) hm, h.apv j (by omega) hm⟩
    · simp only [if_neg e]; exact h.g.ap k j (by omega) (by omega) hm
end
/-- The list of the first n of these values. -/
def firstN (f : Nat → Value) (n : Nat) : List Value := (List.range n).map f
theorem firstN_len (f : Nat → Value) (n : Nat) : (firstN f n).length = n := by simp [firstN]
theorem firstN_at (f : Nat → Value) (n k : Nat) (h : k < n) : (firstN f n)[k]? = some (f k) := by simp [firstN, h]
theorem firstN_snoc (f : Nat → Value) (n : Nat) (v : Value) : firstN f n ++ [v] = firstN (fun k => if k = n then v else f k) (n + 1) := by
  unfold firstN
  rw [List.range_succ, List.map_append]
  simp only [List.map_cons, List.map_nil, if_true]
  congr 1
  apply List.map_congr_left
  intro k hk
  rw [if_neg (by have := List.mem_range.1 hk; omega)]
theorem firstN_congr {f g : Nat → Value} {n : Nat} (h : ∀ k, k < n → f k = g k) : firstN f n = firstN g n :=
  List.map_congr_left fun k hk => h k (List.mem_range.1 hk)
end Go.Proofs.YtfmcjmkdlldlhaaDoor
