/-
  Slices of strings and of parts: how they read; lists of them that a call owns.
-/
import Derived.Test.YtaeiijncklmfdaaBase
import Derived.Test.YtaeiijncklmfdaaBytes
import Derived.Test.YtaeiijncklmfdaaApp
import Derived.SliceStrings
namespace Go.Proofs.Ytaeiijncklmfdaa
open Go.RowKit

abbrev Str := ByteArray
abbrev Prt := Bool × ByteArray
/-- The slice value v reads, in w, as the strings l. -/
def TS (w : World) (v : Value) (l : List Str) : Prop :=
  ∃ a cap, v = .slice a l.length cap ∧ l.length ≤ 8796093021952 ∧ l.length ≤ cap ∧ (a = none → cap = 0) ∧
    (l = [] ∨ ∃ b off, a = some ⟨b, off, none⟩ ∧ ∀ i : Nat, i < l.length → w.cell? ⟨b, off + i, none⟩ = some (.string (l[i]?.getD ByteArray.empty)))
/-- The slice value v reads, in w, as the parts l. -/
def PT (w : World) (v : Value) (l : List Prt) : Prop :=
  ∃ a cap, v = .slice a l.length cap ∧ l.length ≤ 5864062014634 ∧ l.length ≤ cap ∧ (a = none → cap = 0) ∧
    (l = [] ∨ ∃ b off, a = some ⟨b, off, none⟩ ∧ ∀ i : Nat, i < l.length → w.cell? ⟨b, off + i * 2, none⟩ = some (.bool (l[i]?.getD (false, ByteArray.empty)).1) ∧ w.cell? ⟨b, off + i * 2 + 1, none⟩ = some (.string (l[i]?.getD (false, ByteArray.empty)).2))
theorem TS.below {w w' : World} {v : Value} {l : List Str} (h : TS w v l) (hb : Below w.heap.size w w') : TS w' v l := by
  obtain ⟨a, cap, rfl, h1, h2, h3, h4⟩ := h
  refine ⟨a, cap, rfl, h1, h2, h3, ?_⟩
  rcases h4 with h4 | ⟨b, off, ha, hc⟩
  · exact .inl h4
  · exact .inr ⟨b, off, ha, fun i hi => by rw [hb.cell (World.block_lt_of_cell? w _ (hc i hi))]; exact hc i hi⟩
theorem PT.below {w w' : World} {v : Value} {l : List Prt} (h : PT w v l) (hb : Below w.heap.size w w') : PT w' v l := by
  obtain ⟨a, cap, rfl, h1, h2, h3, h4⟩ := h
  refine ⟨a, cap, rfl, h1, h2, h3, ?_⟩
  rcases h4 with h4 | ⟨b, off, ha, hc⟩
  · exact .inl h4
  · refine .inr ⟨b, off, ha, fun i hi => ?_⟩
    obtain ⟨g0, g1⟩ := hc i hi
    exact ⟨by rw [hb.cell (World.block_lt_of_cell? w _ g0)]; exact g0, by rw [hb.cell (World.block_lt_of_cell? w _ g1)]; exact g1⟩
theorem TS.len {w : World} {a : Option Addr} {n c : Nat} {l : List Str} (h : TS w (.slice a n c) l) : l.length = n ∧ n ≤ 8796093021952 ∧ n ≤ c ∧ (a = none → c = 0) := by
  obtain ⟨_, _, he, h1, h2, h3, _⟩ := h
  simp only [Value.slice.injEq] at he
  obtain ⟨rfl, rfl, rfl⟩ := he
  exact ⟨rfl, h1, h2, h3⟩
theorem PT.len {w : World} {a : Option Addr} {n c : Nat} {l : List Prt} (h : PT w (.slice a n c) l) : l.length = n ∧ n ≤ 5864062014634 ∧ n ≤ c ∧ (a = none → c = 0) := by
  obtain ⟨_, _, he, h1, h2, h3, _⟩ := h
  simp only [Value.slice.injEq] at he
  obtain ⟨rfl, rfl, rfl⟩ := he
  exact ⟨rfl, h1, h2, h3⟩
theorem TS.read {w : World} {a : Option Addr} {n c : Nat} {l : List Str} (h : TS w (.slice a n c) l) (k : Nat) (hk : k < n) : ∃ b o, a = some ⟨b, o, none⟩ ∧
    ∀ i : Nat, i < n → w.cell? ⟨b, o + i, none⟩ = some (.string (l[i]?.getD ByteArray.empty)) := by
  obtain ⟨_, _, he, _, _, _, h4⟩ := h
  simp only [Value.slice.injEq] at he
  obtain ⟨rfl, rfl, rfl⟩ := he
  rcases h4 with rfl | ⟨b, o, hb, hc⟩
  · exact absurd hk (Nat.not_lt_zero _)
  · exact ⟨b, o, hb, hc⟩
theorem PT.read {w : World} {a : Option Addr} {n c : Nat} {l : List Prt} (h : PT w (.slice a n c) l) (k : Nat) (hk : k < n) : ∃ b o, a = some ⟨b, o, none⟩ ∧
    ∀ i : Nat, i < n → w.cell? ⟨b, o + i * 2, none⟩ = some (.bool (l[i]?.getD (false, ByteArray.empty)).1) ∧ w.cell? ⟨b, o + i * 2 + 1, none⟩ = some (.string (l[i]?.getD (false, ByteArray.empty)).2) := by
  obtain ⟨_, _, he, _, _, _, h4⟩ := h
  simp only [Value.slice.injEq] at he
  obtain ⟨rfl, rfl, rfl⟩ := he
  rcases h4 with rfl | ⟨b, o, hb, hc⟩
  · exact absurd hk (Nat.not_lt_zero _)
  · exact ⟨b, o, hb, hc⟩
theorem takeS_eq_step {α : Type} (d : α) (a b : List α) (k : Nat) (h : k < a.length) (hl : a.length = b.length) (ht : a.take k = b.take k) (he : a[k]?.getD d = b[k]?.getD d) : a.take (k + 1) = b.take (k + 1) := by
  rw [List.take_succ_eq_append_getElem h, List.take_succ_eq_append_getElem (by omega), ht]
  congr 1
  rw [List.getElem?_eq_getElem h, List.getElem?_eq_getElem (by omega)] at he
  simpa using he

/-! ### Lists that a call owns -/
theorem infoT : (Try.prog.info? 9).map (fun i => (i.zero, i.size, i.bytes)) = some (some (.string ByteArray.empty), 1, 16) := by kernel_rfl
def OwnT (w : World) (base : Nat) (v : Value) (l : List Str) : Prop := w.ownsRow base 9 1 v l.length (l.map Value.string)
def ptCells (l : List Prt) : List Value := l.flatMap fun m => [Value.bool m.1, Value.string m.2]
theorem ptCells_len (l : List Prt) : (ptCells l).length = l.length * 2 := by
  unfold ptCells
  induction l with
  | nil => rfl
  | cons m l ih => simp at ih ⊢; omega
theorem ptCells_append (a b : List Prt) : ptCells (a ++ b) = ptCells a ++ ptCells b := by unfold ptCells; rw [List.flatMap_append]
theorem ptCells_get : ∀ (l : List Prt) (i : Nat), i < l.length → (ptCells l)[i * 2]? = some (.bool (l[i]?.getD (false, ByteArray.empty)).1) ∧ (ptCells l)[i * 2 + 1]? = some (.string (l[i]?.getD (false, ByteArray.empty)).2)
  | [], i, h => absurd h (Nat.not_lt_zero _)
  | m :: l, 0, _ => by simp [ptCells]
  | m :: l, i + 1, h => by
    have := ptCells_get l i (by simpa using h)
    unfold ptCells at this ⊢
    rw [List.flatMap_cons, show (i + 1) * 2 = i * 2 + 1 + 1 by omega]
    simpa using this
theorem OwnT.nil (w : World) (base : Nat) : OwnT w base (.slice none 0 0) [] := World.ownsRow_nil _ _ _ _
theorem OwnT.ts {w : World} {base : Nat} {v : Value} {l : List Str} (h : OwnT w base v l) (hl : l.length ≤ 8796093021952) : TS w v l := by
  rcases h.2 with ⟨rfl, hn⟩ | ⟨g, cap, cur, rfl, _, hg, hc, _, _, htake⟩
  · exact ⟨none, 0, by rw [hn], hl, by omega, fun _ => rfl, .inl (List.eq_nil_of_length_eq_zero hn)⟩
  · refine ⟨_, cap, rfl, hl, hc, (fun e => by cases e), .inr ⟨g, 0, rfl, fun i hi => ?_⟩⟩
    have h1 : (l.map Value.string)[i]? = some (.string (l[i]?.getD ByteArray.empty)) := by simp [hi]
    rw [← htake, List.getElem?_take_of_lt (by omega)] at h1
    rw [Nat.zero_add, cell_of_row w g _ cur _ (0, 0) hg]
    simpa using h1
theorem strs_one (l : List Str) : ∀ u ∈ l.map Value.string, u.oneCell' = true := by
  intro u hu
  rw [List.mem_map] at hu
  obtain ⟨_, _, rfl⟩ := hu
  rfl
theorem pts_one (l : List Prt) : ∀ u ∈ ptCells l, u.oneCell' = true := by
  intro u hu
  unfold ptCells at hu
  rw [List.mem_flatMap] at hu
  obtain ⟨m, _, hm⟩ := hu
  simp at hm
  rcases hm with rfl | rfl <;> rfl
/-- append(l, strings..): strings that have just been laid. -/
theorem append_tn {ops : Array Oper} {rest : List Oper} {o : Oper} {a : Act} {w : World} {Q : Exit → Act → World → Prop} (hgd : o.guard = none) (s x : Operand)
    (ho : o.op = .call { callee := .builtin .append, args := #[s, x], argTypes := #[43, 43] })
    (base : Nat) (v : Value) (xs ys : List Str) (cs : Array Value) (n : Nat) (hcs : cs = (ys.map Value.string).toArray) (hn : ys.length = n) (hs : a.eval s = v) (hown : OwnT w base v xs) (bk : Nat) (hx : a.eval x = .slice (some ⟨bk, 0, none⟩) n n) (hbk : w.heap.size = bk)
    (hsum : xs.length + n ≤ 8796093022208) (hbase : base ≤ w.heap.size)
    (h : ∀ v' w', OwnT w' base v' (xs ++ ys) → AppPost w w' base v v' → wpList Try.prog ops Q rest (a.put o.dst v') w') :
    wpList Try.prog ops Q (o :: rest) a (w.alloc (.cells cs 9)) := by
  obtain ⟨i0, hi, hz0, hz1, hz2⟩ := info_parts infoT
  subst hbk hn
  refine append_new hgd s x 43 9 i0 (.string ByteArray.empty) 1 16 ho Try.underlying43 hi hz0 hz1 hz2 rfl (by decide) base v xs.length (xs.map Value.string) hs hown ys.length (ys.map Value.string) cs hcs (by rw [List.length_map, Nat.mul_one]) (strs_one ys) hx (by unfold maxLen; omega) (by omega) hbase ?_
  intro v' w' ho' _ hA
  refine h v' w' ?_ hA
  unfold OwnT
  rw [List.length_append, List.map_append]
  exact ho'
end Go.Proofs.Ytaeiijncklmfdaa
