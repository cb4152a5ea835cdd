/-
  Bytes: slices that are made, lists of bytes that a call owns.
-/
import Derived.Test.YtdbkoephkdfbfaaBase
import Derived.Lib.Hide
import Derived.Maps.AppendAt
import Derived.Laws.AppendOwnNone
import Derived.Lib.SlBytesConst
import Derived.Lib.SmallJoins
import Derived.Outline
namespace Go.Proofs.Ytdbkoephkdfbfaa
open Go.RowKit

theorem infoB : (Try.prog.info? 5).map (fun i => (i.zero, i.size, i.bytes)) = some (some (.int .u8 0), 1, 1) := by kernel_rfl

/-! ### A list of bytes that the call itself makes -/

/-- The value v owns the bytes l, in blocks from base on. -/
def OwnB (w : World) (base : Nat) (v : Value) (l : List Int) : Prop := w.ownsRow base 5 1 v l.length (l.map (Value.int .u8))

theorem OwnB.nil (w : World) (base : Nat) : OwnB w base (.slice none 0 0) [] := World.ownsRow_nil _ _ _ _

theorem OwnB.sb {w : World} {base : Nat} {v : Value} {l : List Int} (h : OwnB w base v l) (hB : IsB l) (hl : l.length ≤ 140737488351232) : SB w v l := by
  rcases h.2 with ⟨rfl, hn⟩ | ⟨g, cap, cur, rfl, _, hg, _, _, _, htake⟩
  · exact ⟨hB, none, 0, by rw [hn], hl, .inl (List.eq_nil_of_length_eq_zero hn)⟩
  · refine ⟨hB, _, cap, rfl, hl, .inr ⟨g, 0, rfl, fun i hi => ?_⟩⟩
    rw [Nat.zero_add, cell_of_row w g i cur _ (0, 0) hg]
    have : (cur.toList.take (l.length * 1))[i]? = some (.int .u8 (l[i]?.getD 0)) := by rw [htake]; simp [hi]
    rw [List.getElem?_take_of_lt (by omega)] at this
    simpa using this

theorem Arr.grown {w w' : World} {g : Nat} {T : TypeId} {l : List Int} (h : Arr w g T l) {row : Option Nat} (hg : w.grownBy w' row) (hr : ∀ k, row = some k → g ≠ k) : Arr w' g T l := by
  unfold Arr
  rw [hg.block g h.lt (fun e => hr g e.symm rfl)]
  exact h

/-- What an append of one byte leaves. -/
theorem own_step {w' : World} {base : Nat} {v' : Value} {l : List Int} {x : Int} (h : w'.ownsRow base 5 1 v' (l.length + 1) (l.map (Value.int .u8) ++ [.int .u8 x])) : OwnB w' base v' (l ++ [x]) := by
  unfold OwnB
  rw [List.length_append, List.map_append]
  exact h

theorem OwnB.far {w : World} {base : Nat} {v : Value} {l : List Int} (h : OwnB w base v l) {g : Nat} (hg : g < base) : ∀ k, v.ownBlock = some k → g ≠ k := fun k hk => by
  have := (World.ownsRow.lt h k hk).1
  omega
theorem OwnB.from {w : World} {base : Nat} {v : Value} {l : List Int} (h : OwnB w base v l) {B : Nat} (hB : B ≤ base) : ∀ k, v.ownBlock = some k → B ≤ k := fun k hk => Nat.le_trans hB (World.ownsRow.lt h k hk).1

/-- The two values own no block together. -/
def Apart (va vb : Value) : Prop := ∀ k, va.ownBlock = some k → vb.ownBlock = some k → False
theorem Apart.symm {va vb : Value} (h : Apart va vb) : Apart vb va := fun k h1 h2 => h k h2 h1

/-- What an append of one byte to one of two lists does to both. -/
theorem two_step {w w' : World} {base : Nat} {va va' vb : Value} {a b : List Int} {x : Int} (hb : OwnB w base vb b) (hap : Apart va vb)
    (hown' : w'.ownsRow base 5 1 va' (a.length + 1) (a.map (Value.int .u8) ++ [.int .u8 x])) (hgrow : (w.alloc (.cells #[.int .u8 x] 5)).grownBy w' va.ownBlock)
    (hat : va'.ownBlock = va.ownBlock ∨ va'.ownBlock = some (w.heap.size + 1)) :
    OwnB w' base va' (a ++ [x]) ∧ OwnB w' base vb b ∧ Apart va' vb := by
  refine ⟨own_step hown', ?_, ?_⟩
  · refine World.ownsRow.kept (World.ownsRow.alloc hb _) hgrow ?_
    cases hk : vb.ownBlock with
    | none => exact .inl rfl
    | some k => exact .inr fun e => hap k e.symm hk
  · intro k h1 h2
    have hlt := (World.ownsRow.lt hb k h2).2
    rcases hat with e | e
    · rw [e] at h1; exact hap k h1 h2
    · rw [e] at h1
      simp only [Option.some.injEq] at h1
      omega

theorem one_cell (w : World) (x : Int) : ∀ j u, ([.int .u8 x] : List Value)[j]? = some u → (w.alloc (.cells #[.int .u8 x] 5)).cell? ((⟨w.heap.size, 0, none⟩ : Addr).add j) = some u := by
  intro j u hj
  match j, hj with
  | 0, hj =>
    simp only [List.getElem?_cons_zero, Option.some.injEq] at hj
    subst hj
    simp [Addr.add]
theorem one_one (x : Int) : ∀ u ∈ ([.int .u8 x] : List Value), u.oneCell' = true := by
  intro u hu
  simp only [List.mem_singleton] at hu
  subst hu
  rfl

theorem isB_of (l : List Int) (h : l.all (fun x => decide (0 ≤ x ∧ x ≤ 255)) = true) : IsB l := by
  intro i
  by_cases hi : i < l.length
  · rw [List.all_eq_true] at h
    have := h l[i] (List.getElem_mem hi)
    simpa [hi] using this
  · simp [hi]

/-- A literal text, just laid. -/
theorem SB.lit (w : World) (t : TypeId) (l : List Int) (cs : Array Value) (fr : Nat × Nat) (cap : Nat) (h : cs = row l) (hB : l.all (fun x => decide (0 ≤ x ∧ x ≤ 255)) = true) (hl : l.length ≤ 140737488351232) :
    SB (w.alloc (.cells cs t fr)) (.slice (some ⟨w.heap.size, 0, none⟩) l.length cap) l := by
  subst h
  refine ⟨isB_of l hB, _, cap, rfl, hl, .inr ⟨_, 0, rfl, fun i hi => ?_⟩⟩
  rw [Nat.zero_add, cell_of_row _ _ i (row l) t fr (heap_alloc_new w _), row_get l i hi]

theorem SB.alloc {w : World} {v : Value} {l : List Int} (h : SB w v l) (o : Obj) : SB (w.alloc o) v l := h.below ((Below.refl _ w).alloc (Nat.le_refl _) o)

theorem isB_nil : IsB [] := fun i => by simp
theorem isB_snoc (l : List Int) (x : Int) (h : IsB l) (h0 : 0 ≤ x) (h1 : x ≤ 255) : IsB (l ++ [x]) := by
  intro i
  rw [List.getElem?_append]
  split
  · exact h i
  · by_cases hi : i - l.length = 0
    · rw [hi]; exact ⟨h0, h1⟩
    · rw [List.getElem?_eq_none (by simp; omega)]; simp
theorem sb_cells {w : World} {b o n : Nat} {l : List Int} (hc : ∀ i : Nat, i < n → w.cell? ⟨b, o + i, none⟩ = some (.int .u8 (l[i]?.getD 0))) (hl : l.length = n) :
    ∀ j u, (l.map (Value.int .u8))[j]? = some u → w.cell? ((⟨b, o, none⟩ : Addr).add j) = some u := by
  intro j u hj
  have hlt : j < l.length := by
    have := (List.getElem?_eq_some_iff.1 hj).1
    simpa using this
  rw [show (⟨b, o, none⟩ : Addr).add j = ⟨b, o + j, none⟩ by simp [Addr.add], hc j (by omega)]
  simpa [hlt] using hj
theorem bytes_one (l : List Int) : ∀ u ∈ l.map (Value.int .u8), u.oneCell' = true := by
  intro u hu
  rw [List.mem_map] at hu
  obtain ⟨_, _, rfl⟩ := hu
  rfl

/-- A twin of a list of bytes. -/
def TwinPost (w : World) (l : List Int) (e : Ending) (w' : World) : Prop := ∃ v, e = .returned v ∧ OwnB w' w.heap.size v l ∧ Below w.heap.size w w'


/-! ### A cut of a slice of bytes -/
theorem mem_takeWhile {p : Int → Bool} {l : List Int} {c : Int} (h : c ∈ l.takeWhile p) : p c = true := by
  induction l with
  | nil => simp at h
  | cons x t ih =>
    rw [List.takeWhile_cons] at h
    split at h
    · rename_i hx
      rcases List.mem_cons.1 h with rfl | h
      · exact hx
      · exact ih h
    · simp at h
theorem isB_cut (l : List Int) (lo n : Nat) (h : IsB l) : IsB ((l.drop lo).take n) := by
  intro i
  by_cases hi : i < ((l.drop lo).take n).length
  · have h1 := h (lo + i)
    rw [List.length_take, List.length_drop] at hi
    have e : ((l.drop lo).take n)[i]? = l[lo + i]? := by
      rw [List.getElem?_take_of_lt (by omega), List.getElem?_drop]
    rw [e]; exact h1
  · rw [List.getElem?_eq_none (by omega)]; simp
theorem OwnB.mono {w : World} {base base' : Nat} {v : Value} {l : List Int} (h : OwnB w base v l) (hb : base' ≤ base) : OwnB w base' v l :=
  ⟨h.1, h.2.imp_right fun ⟨g, cap, cur, e, hg, r⟩ => ⟨g, cap, cur, e, by omega, r⟩⟩
theorem OwnB.setBelow {w : World} {base : Nat} {v : Value} {l : List Int} (h : OwnB w base v l) {a : Addr} (ha : a.block < base) (u : Value) : OwnB (w.setCell a u) base v l := ownsRow_setCell_below h ha u
theorem isB_append (a b : List Int) (ha : IsB a) (hb : IsB b) : IsB (a ++ b) := by
  intro i
  rw [List.getElem?_append]
  split
  · exact ha i
  · exact hb _
theorem isB_one (x : Int) (h0 : 0 ≤ x) (h1 : x ≤ 255) : IsB [x] := by
  intro i
  match i with
  | 0 => simp; omega
  | i + 1 => simp
theorem drop_at (l : List Int) (k : Nat) (h : k < l.length) : l.drop k = (l[k]?.getD 0) :: l.drop (k + 1) := by
  rw [List.drop_eq_getElem_cons h]
  simp [h]

/-! ### append(out, s...) of a list of bytes, nil or not -/
theorem SB.news {w : World} {ad : Addr} {n c : Nat} {l : List Int} (h : SB w (.slice (some ad) n c) l) : l.length = n ∧ ∀ j u, (l.map (Value.int .u8))[j]? = some u → w.cell? (ad.add j) = some u := by
  obtain ⟨_, _, _, he, _, h3⟩ := h
  simp only [Value.slice.injEq] at he
  obtain ⟨ha, hn, _⟩ := he
  refine ⟨hn.symm, fun j u hj => ?_⟩
  rcases h3 with rfl | ⟨b, o, hb, hc⟩
  · simp at hj
  · have hlt : j < l.length := by
      have := (List.getElem?_eq_some_iff.1 hj).1
      simpa using this
    have e := ha.trans hb
    simp only [Option.some.injEq] at e
    subst e
    rw [show (⟨b, o, none⟩ : Addr).add j = ⟨b, o + j, none⟩ by simp [Addr.add], hc j hlt]
    simpa [hlt] using hj
theorem SB.len {w : World} {a : Option Addr} {n c : Nat} {l : List Int} (h : SB w (.slice a n c) l) : l.length = n ∧ n ≤ 140737488351232 := by
  obtain ⟨_, _, _, he, hl, _⟩ := h
  simp only [Value.slice.injEq] at he
  omega
theorem SB.ofNone {w : World} {n c : Nat} {l : List Int} (h : SB w (.slice none n c) l) : l = [] := by
  obtain ⟨_, _, _, he, _, h3⟩ := h
  simp only [Value.slice.injEq] at he
  rcases h3 with h3 | ⟨_, _, hb, _⟩
  · exact h3
  · rw [← he.1] at hb; cases hb

/-- What an append to the value v leaves of what was there. -/
structure AppPost (w w' : World) (base : Nat) (v v' : Value) : Prop where
  bel : ∀ B w0, Below B w0 w → B ≤ base → Below B w0 w'
  other : ∀ base2 e n xs vb m, w.ownsRow base2 e n vb m xs → Apart v vb → w'.ownsRow base2 e n vb m xs ∧ Apart v' vb
  block : ∀ k, k < w.heap.size → v.ownBlock ≠ some k → w'.heap[k]? = w.heap[k]?
  size : w.heap.size ≤ w'.heap.size
  new : ∀ k, v'.ownBlock = some k → v.ownBlock = some k ∨ w.heap.size ≤ k

theorem app_post {w w' w1 : World} {base base0 : Nat} {v v' : Value} {e0 : TypeId} {n0 m0 : Nat} {xs0 : List Value} (hown : w.ownsRow base0 e0 n0 v m0 xs0) (hb0 : base ≤ base0) (hbase : base ≤ w.heap.size) (hw : Below w.heap.size w w1) (hgrow : w1.grownBy w' v.ownBlock)
    (hat : v'.ownBlock = v.ownBlock ∨ v'.ownBlock = some w1.heap.size) : AppPost w w' base v v' := by
  have hsz := hw.size
  have hlt := World.ownsRow.lt hown
  refine ⟨fun B w0 hB hle => ?_, fun base2 e n xs vb m ho hap => ?_, fun k hk hne => ?_, Nat.le_trans hsz hgrow.size, fun k hk => ?_⟩
  · exact (hB.trans (hw.mono (by omega))).grown hgrow (by omega) fun k hk => by have := (hlt k hk).1; omega
  · have hlt2 := World.ownsRow.lt ho
    refine ⟨World.ownsRow.kept (World.ownsRow.kept ho ⟨hw.os, hw.tape, hw.output, hw.size, fun k hk _ => hw.block k hk⟩ (row := none) ?_) hgrow ?_, fun k h1 h2 => ?_⟩
    · cases vb.ownBlock <;> simp
    · cases hk : vb.ownBlock with
      | none => exact .inl rfl
      | some k => exact .inr fun e => hap k e.symm hk
    · rcases hat with e | e
      · rw [e] at h1; exact hap k h1 h2
      · rw [e] at h1
        simp only [Option.some.injEq] at h1
        have := (hlt2 k h2).2
        omega
  · rw [hgrow.block k (by omega) (fun e => hne e.symm), hw.block k hk]
  · rcases hat with e | e
    · exact .inl (e ▸ hk)
    · rw [e] at hk; simp only [Option.some.injEq] at hk; exact .inr (by omega)

theorem OwnB.below {w w' : World} {base : Nat} {v : Value} {l : List Int} (h : OwnB w base v l) (hb : Below w.heap.size w w') : OwnB w' base v l :=
  World.ownsRow.kept h (row := none) ⟨hb.os, hb.tape, hb.output, hb.size, fun k hk _ => hb.block k hk⟩ (by cases v.ownBlock <;> simp)
theorem OwnB.sbn {w : World} {base : Nat} {v : Value} {l : List Int} (h : OwnB w base v l) (hB : IsB l) (hl : l.length ≤ 140737488351232) : ∃ ad cap, v = .slice ad l.length cap ∧ l.length ≤ cap ∧ (ad = none → cap = 0) ∧ SB w v l := by
  have hs := h.sb hB hl
  rcases h.2 with ⟨rfl, hn⟩ | ⟨g, cap, cur, rfl, _, _, hc, _⟩
  · exact ⟨none, 0, by rw [hn], by omega, fun _ => rfl, hs⟩
  · exact ⟨_, cap, rfl, hc, (fun h => by cases h), hs⟩
end Go.Proofs.Ytdbkoephkdfbfaa
