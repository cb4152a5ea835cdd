/-
  Bytes: slices that are made, lists of bytes that a call owns.
-/
import Derived.Test.YtaeiijncklmfdaaBase
import Derived.Lib.Hide
import Derived.Maps.AppendAt
import Derived.Laws.AppendOwnNone
import Derived.Lib.SlBytesConst
import Derived.Lib.SmallJoins
import Derived.Outline
namespace Go.Proofs.Ytaeiijncklmfdaa
open Go.RowKit

theorem infoB : (Try.prog.info? 5).map (fun i => (i.zero, i.size, i.bytes)) = some (some (.int .u8 0), 1, 1) := by kernel_rfl

theorem madeB (w : World) (n : Nat) (hn : n ≤ 140737488351232) : (Instr.makeSlice 34 (.int .i64 n) (.int .i64 n)).run Try.prog w = .ok (.slice (some ⟨w.heap.size, 0, none⟩) n n) (w.alloc (.cells (row (List.replicate n 0)) 5)) := by
  obtain ⟨i, hi, hz, hs, hb⟩ := info_parts infoB
  have h := run_make (P := Try.prog) w 34 5 i (.int .u8 0) Try.underlying34 hi hz .i64 .i64 n n (by omega) (by omega) (by rw [hb]; omega) (by omega)
  rw [h, hs]
  have e : madeCells (Value.cells (.int .u8 0)) ((n : Int).toNat * 1) = row (List.replicate n 0) := by
    apply Array.ext'
    simp [madeCells, row, Value.cells, Nat.mod_one]
    exact List.eq_replicate_iff.2 ⟨by simp, fun b hb => by simp at hb; obtain ⟨_, _, rfl⟩ := hb; rfl⟩
  rw [e]
  simp

/-! ### A list of bytes that the call itself makes -/

/-- The value v owns the bytes l, in blocks from base on. -/
def OwnB (w : World) (base : Nat) (v : Value) (l : List Int) : Prop := w.ownsRow base 5 1 v l.length (l.map (Value.int .u8))

theorem OwnB.nil (w : World) (base : Nat) : OwnB w base (.slice none 0 0) [] := World.ownsRow_nil _ _ _ _

theorem OwnB.sb {w : World} {base : Nat} {v : Value} {l : List Int} (h : OwnB w base v l) (hB : IsB l) (hl : l.length ≤ 140737488351232) : SB w v l := by
  rcases h.2 with ⟨rfl, hn⟩ | ⟨g, cap, cur, rfl, _, hg, _, _, _, htake⟩
  · exact ⟨hB, none, 0, by rw [hn], hl, .inl (List.eq_nil_of_length_eq_zero hn)⟩
  · refine ⟨hB, _, cap, rfl, hl, .inr ⟨g, 0, rfl, fun i hi => ?_⟩⟩
    rw [Nat.zero_add, cell_of_row w g i cur _ (0, 0) hg]
    have : (cur.toList.take (l.length * 1))[i]? = some (.int .u8 (l[i]?.getD 0)) := by rw [htake]; simp [hi]
    rw [List.getElem?_take_of_lt (by omega)] at this
    simpa using this

theorem Arr.grown {w w' : World} {g : Nat} {T : TypeId} {l : List Int} (h : Arr w g T l) {row : Option Nat} (hg : w.grownBy w' row) (hr : ∀ k, row = some k → g ≠ k) : Arr w' g T l := by
  unfold Arr
  rw [hg.block g h.lt (fun e => hr g e.symm rfl)]
  exact h

/-- What an append of one byte leaves. -/
theorem own_step {w' : World} {base : Nat} {v' : Value} {l : List Int} {x : Int} (h : w'.ownsRow base 5 1 v' (l.length + 1) (l.map (Value.int .u8) ++ [.int .u8 x])) : OwnB w' base v' (l ++ [x]) := by
  unfold OwnB
  rw [List.length_append, List.map_append]
  exact h

theorem OwnB.far {w : World} {base : Nat} {v : Value} {l : List Int} (h : OwnB w base v l) {g : Nat} (hg : g < base) : ∀ k, v.ownBlock = some k → g ≠ k := fun k hk => by
  have := (World.ownsRow.lt h k hk).1
  omega
theorem OwnB.from {w : World} {base : Nat} {v : Value} {l : List Int} (h : OwnB w base v l) {B : Nat} (hB : B ≤ base) : ∀ k, v.ownBlock = some k → B ≤ k := fun k hk => Nat.le_trans hB (World.ownsRow.lt h k hk).1

/-- The two values own no block together. -/
def Apart (va vb : Value) : Prop := ∀ k, va.ownBlock = some k → vb.ownBlock = some k → False
theorem Apart.symm {va vb : Value} (h : Apart va vb) : Apart vb va := fun k h1 h2 => h k h2 h1

/-- What an append of one byte to one of two lists does to both. -/
theorem two_step {w w' : World} {base : Nat} {va va' vb : Value} {a b : List Int} {x : Int} (hb : OwnB w base vb b) (hap : Apart va vb)
    (hown' : w'.ownsRow base 5 1 va' (a.length + 1) (a.map (Value.int .u8) ++ [.int .u8 x])) (hgrow : (w.alloc (.cells #[.int .u8 x] 5)).grownBy w' va.ownBlock)
    (hat : va'.ownBlock = va.ownBlock ∨ va'.ownBlock = some (w.heap.size + 1)) :
    OwnB w' base va' (a ++ [x]) ∧ OwnB w' base vb b ∧ Apart va' vb := by
  refine ⟨own_step hown', ?_, ?_⟩
  · refine World.ownsRow.kept (World.ownsRow.alloc hb _) hgrow ?_
    cases hk : vb.ownBlock with
    | none => exact .inl rfl
    | some k => exact .inr fun e => hap k e.symm hk
  · intro k h1 h2
    have hlt := (World.ownsRow.lt hb k h2).2
    rcases hat with e | e
    · rw [e] at h1; exact hap k h1 h2
    · rw [e] at h1
      simp only [Option.some.injEq] at h1
      omega

theorem one_cell (w : World) (x : Int) : ∀ j u, ([.int .u8 x] : List Value)[j]? = some u → (w.alloc (.cells #[.int .u8 x] 5)).cell? ((⟨w.heap.size, 0, none⟩ : Addr).add j) = some u := by
  intro j u hj
  match j, hj with
  | 0, hj =>
    simp only [List.getElem?_cons_zero, Option.some.injEq] at hj
    subst hj
    simp [Addr.add]
theorem one_one (x : Int) : ∀ u ∈ ([.int .u8 x] : List Value), u.oneCell' = true := by
  intro u hu
  simp only [List.mem_singleton] at hu
  subst hu
  rfl

theorem isB_of (l : List Int) (h : l.all (fun x => decide (0 ≤ x ∧ x ≤ 255)) = true) : IsB l := by
  intro i
  by_cases hi : i < l.length
  · rw [List.all_eq_true] at h
    have := h l[i] (List.getElem_mem hi)
    simpa [hi] using this
  · simp [hi]

/-- A literal text, just laid. -/
theorem SB.lit (w : World) (t : TypeId) (l : List Int) (cs : Array Value) (fr : Nat × Nat) (cap : Nat) (h : cs = row l) (hB : l.all (fun x => decide (0 ≤ x ∧ x ≤ 255)) = true) (hl : l.length ≤ 140737488351232) :
    SB (w.alloc (.cells cs t fr)) (.slice (some ⟨w.heap.size, 0, none⟩) l.length cap) l := by
  subst h
  refine ⟨isB_of l hB, _, cap, rfl, hl, .inr ⟨_, 0, rfl, fun i hi => ?_⟩⟩
  rw [Nat.zero_add, cell_of_row _ _ i (row l) t fr (heap_alloc_new w _), row_get l i hi]

theorem SB.alloc {w : World} {v : Value} {l : List Int} (h : SB w v l) (o : Obj) : SB (w.alloc o) v l := h.below ((Below.refl _ w).alloc (Nat.le_refl _) o)

theorem isB_nil : IsB [] := fun i => by simp
theorem isB_snoc (l : List Int) (x : Int) (h : IsB l) (h0 : 0 ≤ x) (h1 : x ≤ 255) : IsB (l ++ [x]) := by
  intro i
  rw [List.getElem?_append]
  split
  · exact h i
  · by_cases hi : i - l.length = 0
    · rw [hi]; exact ⟨h0, h1⟩
    · rw [List.getElem?_eq_none (by simp; omega)]; simp
theorem sb_cells {w : World} {b o n : Nat} {l : List Int} (hc : ∀ i : Nat, i < n → w.cell? ⟨b, o + i, none⟩ = some (.int .u8 (l[i]?.getD 0))) (hl : l.length = n) :
    ∀ j u, (l.map (Value.int .u8))[j]? = some u → w.cell? ((⟨b, o, none⟩ : Addr).add j) = some u := by
  intro j u hj
  have hlt : j < l.length := by
    have := (List.getElem?_eq_some_iff.1 hj).1
    simpa using this
  rw [show (⟨b, o, none⟩ : Addr).add j = ⟨b, o + j, none⟩ by simp [Addr.add], hc j (by omega)]
  simpa [hlt] using hj
theorem bytes_one (l : List Int) : ∀ u ∈ l.map (Value.int .u8), u.oneCell' = true := by
  intro u hu
  rw [List.mem_map] at hu
  obtain ⟨_, _, rfl⟩ := hu
  rfl

/-- A twin of a list of bytes. -/
def TwinPost (w : World) (l : List Int) (e : Ending) (w' : World) : Prop := ∃ v, e = .returned v ∧ OwnB w' w.heap.size v l ∧ Below w.heap.size w w'


/-! ### A cut of a slice of bytes -/
theorem mem_takeWhile {p : Int → Bool} {l : List Int} {c : Int} (h : c ∈ l.takeWhile p) : p c = true := by
  induction l with
  | nil => simp at h
  | cons x t ih =>
    rw [List.takeWhile_cons] at h
    split at h
    · rename_i hx
      rcases List.mem_cons.1 h with rfl | h
      · exact hx
      · exact ih h
    · simp at h
theorem isB_cut (l : List Int) (lo n : Nat) (h : IsB l) : IsB ((l.drop lo).take n) := by
  intro i
  by_cases hi : i < ((l.drop lo).take n).length
  · have h1 := h (lo + i)
    rw [List.length_take, List.length_drop] at hi
    have e : ((l.drop lo).take n)[i]? = l[lo + i]? := by
      rw [List.getElem?_take_of_lt (by omega), List.getElem?_drop]
    rw [e]; exact h1
  · rw [List.getElem?_eq_none (by omega)]; simp
theorem sizeU8 (w : World) : (sizeOf (Try.prog.elem 34)).run Try.prog w = .ok 1 w := by kernel_rfl
theorem elemU8 : Try.prog.underlying 34 = some (.slice (Try.prog.elem 34)) := by kernel_rfl

/-- s[lo:hi] reads as the cut list. -/
theorem SB.cut {w : World} {ad : Option Addr} {n cap : Nat} {l : List Int} (h : SB w (.slice ad n cap) l) (lo hi : Nat) (h1 : lo ≤ hi) (h2 : hi ≤ n) (hc : n ≤ cap) :
    ∃ ad', (∀ W, (Instr.slice 34 (.slice ad n cap) (some (.int .i64 lo)) (some (.int .i64 hi)) none).run Try.prog W = .ok (.slice ad' (hi - lo) (cap - lo)) W) ∧ SB w (.slice ad' (hi - lo) (cap - lo)) ((l.drop lo).take (hi - lo)) ∧
      (∀ W, (Instr.slice 34 (.slice ad n cap) (some (.int .i64 lo)) none none).run Try.prog W = .ok (sliced ad lo n cap 1) W) ∧ sliced ad lo hi cap 1 = .slice ad' (hi - lo) (cap - lo) := by
  refine ⟨if cap = lo then ad else ad.map (·.add (lo * 1)), fun W => ?_, ?_, fun W => ?_, rfl⟩
  · rw [run_slice_lh W 34 ad n cap elemU8 .i64 .i64 lo hi (by omega) (by omega) (by omega), sizeU8]
    rfl
  · obtain ⟨hB, ad0, cap0, he, hl, hcell⟩ := h
    simp only [Value.slice.injEq] at he
    obtain ⟨rfl, rfl, rfl⟩ := he
    have hlen : ((l.drop lo).take (hi - lo)).length = hi - lo := by rw [List.length_take, List.length_drop]; omega
    refine ⟨isB_cut l lo _ hB, _, _, by rw [hlen], by omega, ?_⟩
    by_cases h0 : hi - lo = 0
    · left; exact List.eq_nil_of_length_eq_zero (by omega)
    · rcases hcell with rfl | ⟨b, o, rfl, hcell⟩
      · simp at h2; omega
      · right
        refine ⟨b, o + lo, ?_, fun i hi' => ?_⟩
        · rw [if_neg (by omega)]; simp [Addr.add]
        · rw [hlen] at hi'
          have := hcell (lo + i) (by omega)
          rw [show o + lo + i = o + (lo + i) by omega, this, List.getElem?_take_of_lt (by omega), List.getElem?_drop]
  · rw [run_slice_l W 34 ad n cap elemU8 .i64 lo (by omega) (by omega), sizeU8]
    rfl
theorem OwnB.mono {w : World} {base base' : Nat} {v : Value} {l : List Int} (h : OwnB w base v l) (hb : base' ≤ base) : OwnB w base' v l :=
  ⟨h.1, h.2.imp_right fun ⟨g, cap, cur, e, hg, r⟩ => ⟨g, cap, cur, e, by omega, r⟩⟩
theorem OwnB.setBelow {w : World} {base : Nat} {v : Value} {l : List Int} (h : OwnB w base v l) {a : Addr} (ha : a.block < base) (u : Value) : OwnB (w.setCell a u) base v l := ownsRow_setCell_below h ha u
theorem isB_append (a b : List Int) (ha : IsB a) (hb : IsB b) : IsB (a ++ b) := by
  intro i
  rw [List.getElem?_append]
  split
  · exact ha i
  · exact hb _
theorem isB_one (x : Int) (h0 : 0 ≤ x) (h1 : x ≤ 255) : IsB [x] := by
  intro i
  match i with
  | 0 => simp; omega
  | i + 1 => simp
theorem drop_at (l : List Int) (k : Nat) (h : k < l.length) : l.drop k = (l[k]?.getD 0) :: l.drop (k + 1) := by
  rw [List.drop_eq_getElem_cons h]
  simp [h]

/-! ### append(out, s...) of a list of bytes, nil or not -/
theorem SB.news {w : World} {ad : Addr} {n c : Nat} {l : List Int} (h : SB w (.slice (some ad) n c) l) : l.length = n ∧ ∀ j u, (l.map (Value.int .u8))[j]? = some u → w.cell? (ad.add j) = some u := by
  obtain ⟨_, _, _, he, _, h3⟩ := h
  simp only [Value.slice.injEq] at he
  obtain ⟨ha, hn, _⟩ := he
  refine ⟨hn.symm, fun j u hj => ?_⟩
  rcases h3 with rfl | ⟨b, o, hb, hc⟩
  · simp at hj
  · have hlt : j < l.length := by
      have := (List.getElem?_eq_some_iff.1 hj).1
      simpa using this
    have e := ha.trans hb
    simp only [Option.some.injEq] at e
    subst e
    rw [show (⟨b, o, none⟩ : Addr).add j = ⟨b, o + j, none⟩ by simp [Addr.add], hc j hlt]
    simpa [hlt] using hj
theorem SB.len {w : World} {a : Option Addr} {n c : Nat} {l : List Int} (h : SB w (.slice a n c) l) : l.length = n ∧ n ≤ 140737488351232 := by
  obtain ⟨_, _, _, he, hl, _⟩ := h
  simp only [Value.slice.injEq] at he
  omega
theorem SB.ofNone {w : World} {n c : Nat} {l : List Int} (h : SB w (.slice none n c) l) : l = [] := by
  obtain ⟨_, _, _, he, _, h3⟩ := h
  simp only [Value.slice.injEq] at he
  rcases h3 with h3 | ⟨_, _, hb, _⟩
  · exact h3
  · rw [← he.1] at hb; cases hb

/-- append(out, s...): the call's own list, and a list of bytes behind it. -/
theorem append_sb {ops : Array Oper} {rest : List Oper} {o : Oper} {a : Act} {w : World} {Q : Exit → Act → World → Prop} (hgd : o.guard = none) (s x : Operand)
    (ho : o.op = .call { callee := .builtin .append, args := #[s, x], argTypes := #[34, 34] })
    (base : Nat) (v : Value) (xs l : List Int) (ad : Option Addr) (n c : Nat) (hs : a.eval s = v) (hown : OwnB w base v xs) (hx : a.eval x = .slice ad n c) (hN : ad = none → c = 0) (hb : SB w (.slice ad n c) l)
    (hsum : xs.length + n ≤ 140737488355328) (hbase : base ≤ w.heap.size)
    (h : ∀ v' w', OwnB w' base v' (xs ++ l) → w.grownBy w' v.ownBlock → (v'.ownBlock = v.ownBlock ∨ v'.ownBlock = some w.heap.size) → wpList Try.prog ops Q rest (a.put o.dst v') w') :
    wpList Try.prog ops Q (o :: rest) a w := by
  obtain ⟨i0, hi, hz0, hz1, hz2⟩ := info_parts infoB
  cases ad with
  | none =>
    have hl := hb.ofNone
    have hn := hb.len.1
    have hc := hN rfl
    subst hl hc
    simp only [List.length_nil] at hn
    subst hn
    refine wpList_append_own_none hgd s x 34 ho base 5 i0 1 Try.underlying34 hi v xs.length (xs.map (Value.int .u8)) hs hown hx ?_
    refine h v w (by rw [List.append_nil]; exact hown) ⟨rfl, rfl, rfl, Nat.le_refl _, fun _ _ _ => rfl⟩ (.inl rfl)
  | some ad =>
    obtain ⟨hn, hnews⟩ := hb.news
    refine wpList_append_own_at _ hgd s x 34 ho base 5 i0 (.int .u8 0) 1 1 Try.underlying34 hi hz0 hz1 hz2 rfl (by decide) v xs.length (xs.map (Value.int .u8)) hs hown ad n c (l.map (Value.int .u8)) hx (by rw [List.length_map, hn, Nat.mul_one]) hnews (bytes_one l) (by unfold maxLen; omega) (by omega) hbase ?_
    intro v' w' hown' hgrow _ hat
    refine h v' w' ?_ hgrow hat
    unfold OwnB
    rw [List.length_append, List.map_append, hn]
    exact hown'

/-- What an append to the value v leaves of what was there. -/
structure AppPost (w w' : World) (base : Nat) (v v' : Value) : Prop where
  bel : ∀ B w0, Below B w0 w → B ≤ base → Below B w0 w'
  other : ∀ base2 e n xs vb m, w.ownsRow base2 e n vb m xs → Apart v vb → w'.ownsRow base2 e n vb m xs ∧ Apart v' vb
  block : ∀ k, k < w.heap.size → v.ownBlock ≠ some k → w'.heap[k]? = w.heap[k]?
  size : w.heap.size ≤ w'.heap.size
  new : ∀ k, v'.ownBlock = some k → v.ownBlock = some k ∨ w.heap.size ≤ k

theorem app_post {w w' w1 : World} {base base0 : Nat} {v v' : Value} {e0 : TypeId} {n0 m0 : Nat} {xs0 : List Value} (hown : w.ownsRow base0 e0 n0 v m0 xs0) (hb0 : base ≤ base0) (hbase : base ≤ w.heap.size) (hw : Below w.heap.size w w1) (hgrow : w1.grownBy w' v.ownBlock)
    (hat : v'.ownBlock = v.ownBlock ∨ v'.ownBlock = some w1.heap.size) : AppPost w w' base v v' := by
  have hsz := hw.size
  have hlt := World.ownsRow.lt hown
  refine ⟨fun B w0 hB hle => ?_, fun base2 e n xs vb m ho hap => ?_, fun k hk hne => ?_, Nat.le_trans hsz hgrow.size, fun k hk => ?_⟩
  · exact (hB.trans (hw.mono (by omega))).grown hgrow (by omega) fun k hk => by have := (hlt k hk).1; omega
  · have hlt2 := World.ownsRow.lt ho
    refine ⟨World.ownsRow.kept (World.ownsRow.kept ho ⟨hw.os, hw.tape, hw.output, hw.size, fun k hk _ => hw.block k hk⟩ (row := none) ?_) hgrow ?_, fun k h1 h2 => ?_⟩
    · cases vb.ownBlock <;> simp
    · cases hk : vb.ownBlock with
      | none => exact .inl rfl
      | some k => exact .inr fun e => hap k e.symm hk
    · rcases hat with e | e
      · rw [e] at h1; exact hap k h1 h2
      · rw [e] at h1
        simp only [Option.some.injEq] at h1
        have := (hlt2 k h2).2
        omega
  · rw [hgrow.block k (by omega) (fun e => hne e.symm), hw.block k hk]
  · rcases hat with e | e
    · exact .inl (e ▸ hk)
    · rw [e] at hk; simp only [Option.some.injEq] at hk; exact .inr (by omega)

/-- append(out, y): one byte. -/
theorem append_b1 {ops : Array Oper} {rest : List Oper} {o : Oper} {a : Act} {w : World} {Q : Exit → Act → World → Prop} (hgd : o.guard = none) (s x : Operand)
    (ho : o.op = .call { callee := .builtin .append, args := #[s, x], argTypes := #[34, 34] })
    (base : Nat) (v : Value) (xs : List Int) (y : Int) (hs : a.eval s = v) (hown : OwnB w base v xs) (hx : a.eval x = .slice (some ⟨w.heap.size, 0, none⟩) 1 1) (hsum : xs.length + 1 ≤ 140737488355328) (hbase : base ≤ w.heap.size)
    (h : ∀ v' w', OwnB w' base v' (xs ++ [y]) → AppPost w w' base v v' → wpList Try.prog ops Q rest (a.put o.dst v') w') :
    wpList Try.prog ops Q (o :: rest) a (w.alloc (.cells #[.int .u8 y] 5)) := by
  obtain ⟨i0, hi, hz0, hz1, hz2⟩ := info_parts infoB
  refine wpList_append_own_at _ hgd s x 34 ho base 5 i0 (.int .u8 0) 1 1 Try.underlying34 hi hz0 hz1 hz2 rfl (by decide) v xs.length (xs.map (Value.int .u8)) hs (World.ownsRow.alloc hown _) ⟨w.heap.size, 0, none⟩ 1 1 [.int .u8 y] hx rfl (one_cell _ _) (one_one _) (by unfold maxLen; omega) (by omega) (by rw [World.size_alloc]; omega) ?_
  intro v' w' hown' hgrow _ hat
  exact h v' w' (own_step hown') (app_post hown (Nat.le_refl _) hbase ((Below.refl _ w).alloc (Nat.le_refl _) _) hgrow hat)

/-- append(out, s...). -/
theorem append_sbp {ops : Array Oper} {rest : List Oper} {o : Oper} {a : Act} {w : World} {Q : Exit → Act → World → Prop} (hgd : o.guard = none) (s x : Operand)
    (ho : o.op = .call { callee := .builtin .append, args := #[s, x], argTypes := #[34, 34] })
    (base : Nat) (v : Value) (xs l : List Int) (ad : Option Addr) (n c : Nat) (hs : a.eval s = v) (hown : OwnB w base v xs) (hx : a.eval x = .slice ad n c) (hN : ad = none → c = 0) (hb : SB w (.slice ad n c) l)
    (hsum : xs.length + n ≤ 140737488355328) (hbase : base ≤ w.heap.size)
    (h : ∀ v' w', OwnB w' base v' (xs ++ l) → AppPost w w' base v v' → wpList Try.prog ops Q rest (a.put o.dst v') w') :
    wpList Try.prog ops Q (o :: rest) a w :=
  append_sb hgd s x ho base v xs l ad n c hs hown hx hN hb hsum hbase fun v' w' h1 h2 h3 => h v' w' h1 (app_post hown (Nat.le_refl _) hbase (Below.refl _ w) h2 h3)

theorem OwnB.below {w w' : World} {base : Nat} {v : Value} {l : List Int} (h : OwnB w base v l) (hb : Below w.heap.size w w') : OwnB w' base v l :=
  World.ownsRow.kept h (row := none) ⟨hb.os, hb.tape, hb.output, hb.size, fun k hk _ => hb.block k hk⟩ (by cases v.ownBlock <;> simp)
theorem OwnB.sbn {w : World} {base : Nat} {v : Value} {l : List Int} (h : OwnB w base v l) (hB : IsB l) (hl : l.length ≤ 140737488351232) : ∃ ad cap, v = .slice ad l.length cap ∧ l.length ≤ cap ∧ (ad = none → cap = 0) ∧ SB w v l := by
  have hs := h.sb hB hl
  rcases h.2 with ⟨rfl, hn⟩ | ⟨g, cap, cur, rfl, _, _, hc, _⟩
  · exact ⟨none, 0, by rw [hn], by omega, fun _ => rfl, hs⟩
  · exact ⟨_, cap, rfl, hc, (fun h => by cases h), hs⟩
end Go.Proofs.Ytaeiijncklmfdaa
