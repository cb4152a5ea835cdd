/-
  New of any list; a list of lists of ends.
-/
import Derived.Test.YtfmcjmkdlldlhaaLgFa
import Derived.Test.YtfmcjmkdlldlhaaLgJ
import Derived.Test.YtfmcjmkdlldlhaaLgA
namespace Go.Proofs.Ytfmcjmkdlldlhaa
open Go.RowKit

/-- What New tells. -/
def NewV (W : World) (base : Nat) (M : List Ins) (p : Option Addr) (er : Int) : Prop :=
  (shapedM M = false ∧ p = none ∧ er = 49) ∨ (shapedM M = true ∧ er = 0 ∧ ∃ s : SO, p = some ⟨s.g, 0, none⟩ ∧ s.steps = 0 ∧ Sob W base M s)
theorem NewV.below {W W' : World} {base : Nat} {M : List Ins} {p : Option Addr} {er : Int} (h : NewV W base M p er) (hb : Below W.heap.size W W') : NewV W' base M p er :=
  h.imp_right fun ⟨h1, h2, s, h3, h4, h5⟩ => ⟨h1, h2, s, h3, h4, h5.below hb⟩
def NewAll (W : World) (M : List Ins) (e : Ending) (W' : World) : Prop :=
  ∃ p er, e = .returned (.tuple #[.pointer p, .int .i64 er]) ∧ NewV W' W.heap.size M p er ∧ Below W.heap.size W W'
theorem new_any (W : World) (M : List Ins) (a : Option Addr) (n c : Nat) (h : MI W a n c M) : Calls Try.prog 11 #[.slice a n c] W (NewAll W M) := by
  cases hs : shapedM M with
  | false =>
    refine (new_no W M a n c h hs).mono ?_
    rintro e w' ⟨rfl, hb⟩
    exact ⟨_, _, rfl, .inl ⟨hs, rfl, rfl⟩, hb⟩
  | true =>
    refine (new_yes W M a n c h hs).mono ?_
    rintro e w' ⟨s, rfl, h1, h2, hb⟩
    exact ⟨_, _, rfl, .inr ⟨hs, rfl, s, rfl, h1, h2⟩, hb⟩

theorem infoLB : (Try.prog.info? 39).map (fun i => (i.zero, i.size, i.bytes)) = some (some (.slice none 0 0), 1, 24) := by kernel_rfl
theorem wpList_appL {ops : Array Oper} {rest : List Oper} {o : Oper} {a : Act} {w W : World} {Q : Exit → Act → World → Prop} (hgd : o.guard = none) (s x : Operand)
    (ho : o.op = .call { callee := .builtin .append, args := #[s, x], argTypes := #[72, 72] })
    (base : Nat) (v : Value) (n : Nat) (vals : List Value) (y : Value) (hy : y.oneCell' = true) (cs : Array Value) (hcs : cs = #[y]) (hW : W = w.alloc (.cells cs 39)) (hs : a.eval s = v) (hown : w.ownsRow base 39 1 v n vals) (hx : a.eval x = .slice (some ⟨w.heap.size, 0, none⟩) 1 1) (hsum : n + 1 ≤ 1000000000000) (hbase : base ≤ w.heap.size)
    (h : ∀ g cap w', w'.ownsRow base 39 1 (.slice (some ⟨g, 0, none⟩) (n + 1) cap) (n + 1) (vals ++ [y]) → AppPost w w' base v (.slice (some ⟨g, 0, none⟩) (n + 1) cap) → wpList Try.prog ops Q rest (a.put o.dst (.slice (some ⟨g, 0, none⟩) (n + 1) cap)) w') :
    wpList Try.prog ops Q (o :: rest) a W := by
  obtain ⟨i0, hi, hz0, hz1, hz2⟩ := info_parts infoLB
  exact wpList_app hgd s x 72 39 ho i0 (.slice none 0 0) 1 24 Try.underlying72 hi hz0 hz1 hz2 rfl (by decide) base v n 1 _ [y] cs hcs hW hs hown hx rfl (fun u hu => by
    simp only [List.mem_singleton] at hu
    rw [hu]
    exact hy) (by decide) (by unfold maxLen; omega) (by omega) hbase h
theorem EndV.one {W : World} {lo : Nat} {v : Value} {l : List Bool} {F : Nat → Prop} (h : EndV W lo v l F) : v.oneCell' = true := by
  rcases h with ⟨rfl, _⟩ | ⟨g, rfl, _⟩ <;> rfl
theorem EndV.keepT {W W' : World} {lo : Nat} {v : Value} {l : List Bool} {F : Nat → Prop} (h : EndV W lo v l F) (hk : KeepT 4 W W') : EndV W' lo v l F :=
  h.imp_right fun ⟨g, h1, h2, h3, h4⟩ => ⟨g, h1, h2, (hk _ _ h3).trans h3, h4⟩

/-- A list of lists of ends in memory; the blocks F are not its own. -/
structure AL (W : World) (lo : Nat) (al : Value) (vals : List Value) (ls : List (List Bool)) (F : Nat → Prop) : Prop where
  own : W.ownsRow lo 39 1 al vals.length vals
  far : ∀ k, al.ownBlock = some k → ¬ F k
  len : vals.length = ls.length
  el : ∀ (j : Nat) (v : Value), vals[j]? = some v → EndV W lo v (ls[j]?.getD []) F
section
variable {W W' : World} {lo : Nat} {al : Value} {vals : List Value} {ls : List (List Bool)} {F F' : Nat → Prop}
theorem AL.nil (W : World) (lo : Nat) (F : Nat → Prop) : AL W lo (.slice none 0 0) [] [] F :=
  ⟨World.ownsRow_nil _ _ _ _, fun k h => (by cases h), rfl, fun j v h => (by simp at h)⟩
theorem AL.keep (h : AL W lo al vals ls F) (hk : ∀ k, k < W.heap.size → lo ≤ k → ¬ F k → W'.heap[k]? = W.heap[k]? ∧ ¬ F' k) : AL W' lo al vals ls F' :=
  ⟨own_blk h.own fun k e => (hk k (World.ownsRow.lt h.own k e).2 (World.ownsRow.lt h.own k e).1 (h.far k e)).1, fun k e => (hk k (World.ownsRow.lt h.own k e).2 (World.ownsRow.lt h.own k e).1 (h.far k e)).2, h.len,
    fun j v hv => (h.el j v hv).keep fun k h1 h2 h3 => ⟨(hk k h1 h2 h3).1, (hk k h1 h2 h3).2, h2⟩⟩
theorem AL.below (h : AL W lo al vals ls F) (hb : Below W.heap.size W W') : AL W' lo al vals ls F := h.keep fun k h1 _ h3 => ⟨hb.block k h1, h3⟩
theorem AL.up {base : Nat} (h : AL W lo al vals ls F) (hu : Up W W' base F F') : AL W' lo al vals ls F' := h.keep fun k h1 _ h3 => ⟨hu.keep k h1 h3, fun h4 => (hu.new k h4).elim h3 fun h5 => by omega⟩
theorem AL.push {al' v : Value} {l : List Bool} (h : AL W lo al vals ls F) (he : EndV W lo v l F) (ho : W'.ownsRow lo 39 1 al' (vals.length + 1) (vals ++ [v])) (hp : AppPost W W' lo al al') (hF : ∀ k, F k → k < W.heap.size) : AL W' lo al' (vals ++ [v]) (ls ++ [l]) F := by
  have hkt : KeepT 4 W W' := app_keepT h.own hp (by decide)
  refine ⟨by rw [List.length_append]; exact ho, fun k e hf => ?_, by simp [h.len], fun j x hx => ?_⟩
  · rcases hp.new k e with h1 | h1
    · exact h.far k h1 hf
    · have := hF k hf; omega
  · rw [List.getElem?_append] at hx
    split at hx
    · rename_i hj
      rw [List.getElem?_append_left (by rw [← h.len]; exact hj)]
      exact (h.el j x hx).keepT hkt
    · rename_i hj
      rw [List.getElem?_append_right (by rw [← h.len]; omega)]
      rw [← h.len]
      have hj0 : j - vals.length = 0 := by
        by_cases h0 : j - vals.length = 0
        · exact h0
        · rw [List.getElem?_eq_none (by simp; omega)] at hx; cases hx
      rw [hj0] at hx ⊢
      simp only [List.getElem?_cons_zero, Option.some.injEq] at hx
      subst hx
      exact he.keepT hkt
/-- An element of it. -/
theorem AL.read (h : AL W lo al vals ls F) {a : Option Addr} {n c : Nat} (hv : al = .slice a n c) (j : Nat) (hj : j < ls.length) : n = ls.length ∧ ∃ g v, a = some ⟨g, 0, none⟩ ∧ W.cell? ⟨g, j, none⟩ = some v ∧ EndV W lo v (ls[j]?.getD []) F := by
  subst hv
  have ho := h.own
  have hn := own_len ho
  obtain ⟨g, c', hv⟩ := own_some ho (by rw [h.len]; omega)
  simp only [Value.slice.injEq] at hv
  obtain ⟨rfl, -, rfl⟩ := hv
  have hjv : j < vals.length := by rw [h.len]; exact hj
  have hg := List.getElem?_eq_getElem hjv
  rw [hn] at ho
  exact ⟨hn.trans h.len, g, _, rfl, (own_cell (hn ▸ ho) j hjv).1.trans hg, h.el j _ hg⟩
theorem Sob.app {base lo : Nat} {M : List Ins} {s : SO} {v v' : Value} (h : Sob W base M s) (hp : AppPost W W' lo v v') (hf : ∀ k, v.ownBlock = some k → ¬ SBlk s k) : Sob W' base M s :=
  h.keep fun k hk => hp.block k (h.lt k hk).1 fun e => hf k e hk
end
/-- Loop 2 of LongestTwo: the search u of a, and what it told of the first k texts. -/
structure TwA (w w3 wr : World) (Ma : List Ins) (ug : Nat) (ts : List (List Int)) (k : Nat) (al : Value) : Prop where
  bel : Below w.heap.size w wr
  bel3 : Below w3.heap.size w3 wr
  u : ∃ (su : SO) (vals : List Value), su.g = ug ∧ Sob wr w3.heap.size Ma su ∧ AL wr w3.heap.size al vals ((ts.take k).map fun tx => (endsI Ma tx 0).1) (SBlk su)
/-- Loop 3: the searches s and t, apart from one another and from what lies between lo and hi. -/
structure TwC (w w5 wr : World) (base1 base2 : Nat) (Ma Mb : List Ins) (s t : SO) (lo hi : Nat) : Prop where
  bel : Below w.heap.size w wr
  b1 : w.heap.size ≤ base1
  b2 : w.heap.size ≤ base2
  sob : Sob wr base1 Ma s
  tob : Sob wr base2 Mb t
  dis : ∀ k, SBlk s k → ¬ SBlk t k
  avs : ∀ k, SBlk s k → k < lo ∨ hi ≤ k
  avt : ∀ k, SBlk t k → k < lo ∨ hi ≤ k
  far : ∀ k, lo ≤ k → k < hi → wr.heap[k]? = w5.heap[k]?
  sz : hi ≤ wr.heap.size
section
variable {w w5 wr w' : World} {base1 base2 lo hi : Nat} {Ma Mb : List Ins} {s t s' t' : SO}
theorem TwC.below (h : TwC w w5 wr base1 base2 Ma Mb s t lo hi) (hb : Below wr.heap.size wr w') : TwC w w5 w' base1 base2 Ma Mb s t lo hi :=
  { h with
    bel := h.bel.trans (hb.mono h.bel.size)
    sob := h.sob.below hb
    tob := h.tob.below hb
    far := fun k h1 h2 => (hb.block k (Nat.lt_of_lt_of_le h2 h.sz)).trans (h.far k h1 h2)
    sz := Nat.le_trans h.sz hb.size }
theorem TwC.ups (h : TwC w w5 wr base1 base2 Ma Mb s t lo hi) (hu : Up wr w' base1 (SBlk s) (SBlk s')) (hs : Sob w' base1 Ma s') : TwC w w5 w' base1 base2 Ma Mb s' t lo hi :=
  { h with
    bel := hu.bel _ _ h.bel h.b1
    sob := hs
    tob := h.tob.keep fun k hk => hu.keep k (h.tob.lt k hk).1 fun e => h.dis k e hk
    dis := fun k h1 h2 => by
      rcases hu.new k h1 with e | e
      · exact h.dis k e h2
      · have := (h.tob.lt k h2).1; omega
    avs := fun k h1 => by
      rcases hu.new k h1 with e | e
      · exact h.avs k e
      · have := h.sz; exact .inr (by omega)
    far := fun k h1 h2 => (hu.keep k (Nat.lt_of_lt_of_le h2 h.sz) fun e => by rcases h.avs k e with e2 | e2 <;> omega).trans (h.far k h1 h2)
    sz := Nat.le_trans h.sz hu.size }
theorem TwC.upt (h : TwC w w5 wr base1 base2 Ma Mb s t lo hi) (hu : Up wr w' base2 (SBlk t) (SBlk t')) (ht : Sob w' base2 Mb t') : TwC w w5 w' base1 base2 Ma Mb s t' lo hi :=
  { h with
    bel := hu.bel _ _ h.bel h.b2
    tob := ht
    sob := h.sob.keep fun k hk => hu.keep k (h.sob.lt k hk).1 fun e => h.dis k hk e
    dis := fun k h1 h2 => by
      rcases hu.new k h2 with e | e
      · exact h.dis k h1 e
      · have := (h.sob.lt k h1).1; omega
    avt := fun k h1 => by
      rcases hu.new k h1 with e | e
      · exact h.avt k e
      · have := h.sz; exact .inr (by omega)
    far := fun k h1 h2 => (hu.keep k (Nat.lt_of_lt_of_le h2 h.sz) fun e => by rcases h.avt k e with e2 | e2 <;> omega).trans (h.far k h1 h2)
    sz := Nat.le_trans h.sz hu.size }
end
theorem take_map_snoc {α β : Type} (f : α → β) (ts : List α) (k : Nat) (h : k < ts.length) : (ts.take (k + 1)).map f = (ts.take k).map f ++ [f ts[k]] := by
  rw [List.take_succ_eq_append_getElem h, List.map_append]
  rfl
end Go.Proofs.Ytfmcjmkdlldlhaa
