/-
  Several texts in one: LgTw, LgMs, LgCo, LgSl, LgRg, Fields, Lists, Structs, Eq, Wide, StepE, Door0, LgAsM0.
-/
import Derived.Test.YtfmcjmkdlldlhaaDoorLgFa
import Derived.Test.YtfmcjmkdlldlhaaDoorLgJ
import Derived.Test.YtfmcjmkdlldlhaaDoorLgA
import Derived.Test.YtfmcjmkdlldlhaaDoorLgMa
import Derived.Test.YtfmcjmkdlldlhaaDoorLgRkL
import Derived.Test.YtfmcjmkdlldlhaaDoorOpen
import Derived.Test.YtfmcjmkdlldlhaaDoorBytes
import Derived.Deep.Fields
import Derived.SizedLaws
import Derived.Deep.Slices
import Derived.Test.YtfmcjmkdlldlhaaDoorBase
import Derived.Deep.RegionLaw
import Derived.LaidMore
import Derived.OpenShut
import Derived.Stop.Joined
import Derived.HandedShaped
import Derived.Shelf.Vars

namespace Go.Proofs.YtfmcjmkdlldlhaaDoor
open Go.RowKit

/-- What New tells. -/
def NewV (W : World) (base : Nat) (M : List Ins) (p : Option Addr) (er : Int) : Prop :=
  (shapedM M = false ∧ p = none ∧ er = 49) ∨ (shapedM M = true ∧ er = 0 ∧ ∃ s : SO, p = some ⟨s.g, 0, none⟩ ∧ s.steps = 0 ∧ Sob W base M s)
theorem NewV.below {W W' : World} {base : Nat} {M : List Ins} {p : Option Addr} {er : Int} (h : NewV W base M p er) (hb : Below W.heap.size W W') : NewV W' base M p er :=
  h.imp_right fun ⟨h1, h2, s, h3, h4, h5⟩ => ⟨h1, h2, s, h3, h4, h5.below hb⟩
def NewAll (W : World) (M : List Ins) (e : Ending) (W' : World) : Prop :=
  ∃ p er, e = .returned (.tuple #[.pointer p, .int .i64 er]) ∧ NewV W' W.heap.size M p er ∧ Below W.heap.size W W'
theorem new_any (W : World) (M : List Ins) (a : Option Addr) (n c : Nat) (h : MI W a n c M) : Calls Tryd.prog 8 #[.slice a n c] W (NewAll W M) := by
  cases hs : shapedM M with
  | false =>
    refine (new_no W M a n c h hs).mono ?_
    rintro e w' ⟨rfl, hb⟩
    exact ⟨_, _, rfl, .inl ⟨hs, rfl, rfl⟩, hb⟩
  | true =>
    refine (new_yes W M a n c h hs).mono ?_
    rintro e w' ⟨s, rfl, h1, h2, hb⟩
    exact ⟨_, _, rfl, .inr ⟨hs, rfl, s, rfl, h1, h2⟩, hb⟩

theorem infoLB : (Tryd.prog.info? 71).map (fun i => (i.zero, i.size, i.bytes)) = some (some (.slice none 0 0), 1, 24) := by kernel_rfl
theorem wpList_appL {ops : Array Oper} {rest : List Oper} {o : Oper} {a : Act} {w W : World} {Q : Exit → Act → World → Prop} (hgd : o.guard = none) (s x : Operand)
    (ho : o.op = .call { callee := .builtin .append, args := #[s, x], argTypes := #[47, 47] })
    (base : Nat) (v : Value) (n : Nat) (vals : List Value) (y : Value) (hy : y.oneCell' = true) (cs : Array Value) (hcs : cs = #[y]) (hW : W = w.alloc (.cells cs 71)) (hs : a.eval s = v) (hown : w.ownsRow base 71 1 v n vals) (hx : a.eval x = .slice (some ⟨w.heap.size, 0, none⟩) 1 1) (hsum : n + 1 ≤ 1000000000000) (hbase : base ≤ w.heap.size)
    (h : ∀ g cap w', w'.ownsRow base 71 1 (.slice (some ⟨g, 0, none⟩) (n + 1) cap) (n + 1) (vals ++ [y]) → AppPost w w' base v (.slice (some ⟨g, 0, none⟩) (n + 1) cap) → wpList Tryd.prog ops Q rest (a.put o.dst (.slice (some ⟨g, 0, none⟩) (n + 1) cap)) w') :
    wpList Tryd.prog ops Q (o :: rest) a W := by
  obtain ⟨i0, hi, hz0, hz1, hz2⟩ := info_parts infoLB
  exact wpList_app hgd s x 47 71 ho i0 (.slice none 0 0) 1 24 Tryd.underlying47 hi hz0 hz1 hz2 rfl (by decide) base v n 1 _ [y] cs hcs hW hs hown hx rfl (fun u hu => by
    simp only [List.mem_singleton] at hu
    rw [hu]
    exact hy) (by decide) (by unfold maxLen; omega) (by omega) hbase h
theorem EndV.one {W : World} {lo : Nat} {v : Value} {l : List Bool} {F : Nat → Prop} (h : EndV W lo v l F) : v.oneCell' = true := by
  rcases h with ⟨rfl, _⟩ | ⟨g, rfl, _⟩ <;> rfl
theorem EndV.keepT {W W' : World} {lo : Nat} {v : Value} {l : List Bool} {F : Nat → Prop} (h : EndV W lo v l F) (hk : KeepT 4 W W') : EndV W' lo v l F :=
  h.imp_right fun ⟨g, h1, h2, h3, h4⟩ => ⟨g, h1, h2, (hk _ _ h3).trans h3, h4⟩

/-- A list of lists of ends in memory; the blocks F are not its own. -/
structure AL (W : World) (lo : Nat) (al : Value) (vals : List Value) (ls : List (List Bool)) (F : Nat → Prop) : Prop where
  own : W.ownsRow lo 71 1 al vals.length vals
  far : ∀ k, al.ownBlock = some k → ¬ F k
  len : vals.length = ls.length
  el : ∀ (j : Nat) (v : Value), vals[j]? = some v → EndV W lo v (ls[j]?.getD []) F
section
variable {W W' : World} {lo : Nat} {al : Value} {vals : List Value} {ls : List (List Bool)} {F F' : Nat → Prop}
theorem AL.nil (W : World) (lo : Nat) (F : Nat → Prop) : AL W lo (.slice none 0 0) [] [] F :=
  ⟨World.ownsRow_nil _ _ _ _, fun k h => (by cases h), rfl, fun j v h => (by simp at h)⟩
theorem AL.keep (h : AL W lo al vals ls F) (hk : ∀ k, k < W.heap.size → lo ≤ k → ¬ F k → W'.heap[k]? = W.heap[k]? ∧ ¬ F' k) : AL W' lo al vals ls F' :=
  ⟨own_blk h.own fun k e => (hk k (World.ownsRow.lt h.own k e).2 (World.ownsRow.lt h.own k e).1 (h.far k e)).1, fun k e => (hk k (World.ownsRow.lt h.own k e).2 (World.ownsRow.lt h.own k e).1 (h.far k e)).2, h.len,
    fun j v hv => (h.el j v hv).keep fun k h1 h2 h3 => ⟨(hk k h1 h2 h3).1, (hk k h1 h2 h3).2, h2⟩⟩
theorem AL.below (h : AL W lo al vals ls F) (hb : Below W.heap.size W W') : AL W' lo al vals ls F := h.keep fun k h1 _ h3 => ⟨hb.block k h1, h3⟩
theorem AL.up {base : Nat} (h : AL W lo al vals ls F) (hu : Up W W' base F F') : AL W' lo al vals ls F' := h.keep fun k h1 _ h3 => ⟨hu.keep k h1 h3, fun h4 => (hu.new k h4).elim h3 fun h5 => by omega⟩
theorem AL.push {al' v : Value} {l : List Bool} (h : AL W lo al vals ls F) (he : EndV W lo v l F) (ho : W'.ownsRow lo 71 1 al' (vals.length + 1) (vals ++ [v])) (hp : AppPost W W' lo al al') (hF : ∀ k, F k → k < W.heap.size) : AL W' lo al' (vals ++ [v]) (ls ++ [l]) F := by
  have hkt : KeepT 4 W W' := app_keepT h.own hp (by decide)
  refine ⟨by rw [List.length_append]; exact ho, fun k e hf => ?_, by simp [h.len], fun j x hx => ?_⟩
  · rcases hp.new k e with h1 | h1
    · exact h.far k h1 hf
    · have := hF k hf; omega
  · rw [List.getElem?_append] at hx
    split at hx
    · rename_i hj
      rw [List.getElem?_append_left (by rw [← h.len]; exact hj)]
      exact (h.el j x hx).keepT hkt
    · rename_i hj
      rw [List.getElem?_append_right (by rw [← h.len]; omega)]
      rw [← h.len]
      have hj0 : j - vals.length = 0 := by
        by_cases h0 : j - vals.length = 0
        · exact h0
        · rw [List.getElem?_eq_none (by simp; omega)] at hx; cases hx
      rw [hj0] at hx ⊢
      simp only [List.getElem?_cons_zero, Option.some.injEq] at hx
      subst hx
      exact he.keepT hkt
/-- An element of it. -/
theorem AL.read (h : AL W lo al vals ls F) {a : Option Addr} {n c : Nat} (hv : al = .slice a n c) (j : Nat) (hj : j < ls.length) : n = ls.length ∧ ∃ g v, a = some ⟨g, 0, none⟩ ∧ W.cell? ⟨g, j, none⟩ = some v ∧ EndV W lo v (ls[j]?.getD []) F := by
  subst hv
  have ho := h.own
  have hn := own_len ho
  obtain ⟨g, c', hv⟩ := own_some ho (by rw [h.len]; omega)
  simp only [Value.slice.injEq] at hv
  obtain ⟨rfl, -, rfl⟩ := hv
  have hjv : j < vals.length := by rw [h.len]; exact hj
  have hg := List.getElem?_eq_getElem hjv
  rw [hn] at ho
  exact ⟨hn.trans h.len, g, _, rfl, (own_cell (hn ▸ ho) j hjv).1.trans hg, h.el j _ hg⟩
theorem Sob.app {base lo : Nat} {M : List Ins} {s : SO} {v v' : Value} (h : Sob W base M s) (hp : AppPost W W' lo v v') (hf : ∀ k, v.ownBlock = some k → ¬ SBlk s k) : Sob W' base M s :=
  h.keep fun k hk => hp.block k (h.lt k hk).1 fun e => hf k e hk
end
/-- Loop 2 of LongestTwo: the search u of a, and what it told of the first k texts. -/
structure TwA (w w3 wr : World) (Ma : List Ins) (ug : Nat) (ts : List (List Int)) (k : Nat) (al : Value) : Prop where
  bel : Below w.heap.size w wr
  bel3 : Below w3.heap.size w3 wr
  u : ∃ (su : SO) (vals : List Value), su.g = ug ∧ Sob wr w3.heap.size Ma su ∧ AL wr w3.heap.size al vals ((ts.take k).map fun tx => (endsI Ma tx 0).1) (SBlk su)
/-- Loop 3: the searches s and t, apart from one another and from what lies between lo and hi. -/
structure TwC (w w5 wr : World) (base1 base2 : Nat) (Ma Mb : List Ins) (s t : SO) (lo hi : Nat) : Prop where
  bel : Below w.heap.size w wr
  b1 : w.heap.size ≤ base1
  b2 : w.heap.size ≤ base2
  sob : Sob wr base1 Ma s
  tob : Sob wr base2 Mb t
  dis : ∀ k, SBlk s k → ¬ SBlk t k
  avs : ∀ k, SBlk s k → k < lo ∨ hi ≤ k
  avt : ∀ k, SBlk t k → k < lo ∨ hi ≤ k
  far : ∀ k, lo ≤ k → k < hi → wr.heap[k]? = w5.heap[k]?
  sz : hi ≤ wr.heap.size
section
variable {w w5 wr w' : World} {base1 base2 lo hi : Nat} {Ma Mb : List Ins} {s t s' t' : SO}
theorem TwC.below (h : TwC w w5 wr base1 base2 Ma Mb s t lo hi) (hb : Below wr.heap.size wr w') : TwC w w5 w' base1 base2 Ma Mb s t lo hi :=
  { h with
    bel := h.bel.trans (hb.mono h.bel.size)
    sob := h.sob.below hb
    tob := h.tob.below hb
    far := fun k h1 h2 => (hb.block k (Nat.lt_of_lt_of_le h2 h.sz)).trans (h.far k h1 h2)
    sz := Nat.le_trans h.sz hb.size }
theorem TwC.ups (h : TwC w w5 wr base1 base2 Ma Mb s t lo hi) (hu : Up wr w' base1 (SBlk s) (SBlk s')) (hs : Sob w' base1 Ma s') : TwC w w5 w' base1 base2 Ma Mb s' t lo hi :=
  { h with
    bel := hu.bel _ _ h.bel h.b1
    sob := hs
    tob := h.tob.keep fun k hk => hu.keep k (h.tob.lt k hk).1 fun e => h.dis k e hk
    dis := fun k h1 h2 => by
      rcases hu.new k h1 with e | e
      · exact h.dis k e h2
      · have := (h.tob.lt k h2).1; omega
    avs := fun k h1 => by
      rcases hu.new k h1 with e | e
      · exact h.avs k e
      · have := h.sz; exact .inr (by omega)
    far := fun k h1 h2 => (hu.keep k (Nat.lt_of_lt_of_le h2 h.sz) fun e => by rcases h.avs k e with e2 | e2 <;> omega).trans (h.far k h1 h2)
    sz := Nat.le_trans h.sz hu.size }
theorem TwC.upt (h : TwC w w5 wr base1 base2 Ma Mb s t lo hi) (hu : Up wr w' base2 (SBlk t) (SBlk t')) (ht : Sob w' base2 Mb t') : TwC w w5 w' base1 base2 Ma Mb s t' lo hi :=
  { h with
    bel := hu.bel _ _ h.bel h.b2
    tob := ht
    sob := h.sob.keep fun k hk => hu.keep k (h.sob.lt k hk).1 fun e => h.dis k hk e
    dis := fun k h1 h2 => by
      rcases hu.new k h2 with e | e
      · exact h.dis k h1 e
      · have := (h.sob.lt k h1).1; omega
    avt := fun k h1 => by
      rcases hu.new k h1 with e | e
      · exact h.avt k e
      · have := h.sz; exact .inr (by omega)
    far := fun k h1 h2 => (hu.keep k (Nat.lt_of_lt_of_le h2 h.sz) fun e => by rcases h.avt k e with e2 | e2 <;> omega).trans (h.far k h1 h2)
    sz := Nat.le_trans h.sz hu.size }
end
theorem take_map_snoc {α β : Type} (f : α → β) (ts : List α) (k : Nat) (h : k < ts.length) : (ts.take (k + 1)).map f = (ts.take k).map f ++ [f ts[k]] := by
  rw [List.take_succ_eq_append_getElem h, List.map_append]
  rfl
end Go.Proofs.YtfmcjmkdlldlhaaDoor

namespace Go.Proofs.YtfmcjmkdlldlhaaDoor
open Go.RowKit

section
variable (M : List Ins) (tx : List Int)
theorem place_sp (hG : Good M) (p : Nat) (L : List (Nat × Nat)) (sp : Nat) (hs : L.Pairwise (fun a b => a.2 ≤ b.2)) (hm : ∀ t ∈ L, t.1 < M.length) : (placeF M tx p L sp).sp ≤ sp + M.length ∧ sp ≤ (placeF M tx p L sp).sp ∧ (L ≠ [] → sp + 1 ≤ (placeF M tx p L sp).sp) := by
  have P := place_any M tx p hG L sp hs hm
  have hc := P.cnt
  have hu := unv_le M.length (placeF M tx p L sp).V
  refine ⟨by omega, by omega, fun hL => ?_⟩
  obtain ⟨t, l, rfl⟩ := List.exists_cons_of_ne_nil hL
  have hv : (placeF M tx p (t :: l) sp).V t.1 = true := (P.V t.1).2 ⟨t, List.mem_cons_self, .refl⟩
  have hlt := hm t List.mem_cons_self
  have hne : unv M.length (placeF M tx p (t :: l) sp).V ≠ M.length := by
    intro e
    unfold unv at e
    have h := List.countP_eq_length.1 (e.trans (by simp)) t.1 (by simpa using hlt)
    rw [hv] at h
    cases h
  omega
theorem endsF_sp (hG : Good M) (f : Nat) : ∀ (k p : Nat) (L : List (Nat × Nat)) (B : List Bool) (sp : Nat), k + p = tx.length + 1 → f ≤ p → (∀ t : Nat × Nat, t ∈ L ↔ t.2 = f ∧ Ent M tx f t.1 p) →
    (endsF M tx k p L B sp).2 ≤ sp + k * M.length ∧ sp ≤ (endsF M tx k p L B sp).2 := by
  intro k
  induction k with
  | zero => intro p L B sp _ _ _; exact ⟨by simp [endsF], Nat.le_refl _⟩
  | succ k ih =>
    intro p L B sp hk hfp hL
    unfold endsF
    split
    · exact ⟨by omega, Nat.le_refl _⟩
    · have hn := one_next M tx hG hL hfp sp
      have hp := place_sp M tx hG p L sp (srt_one fun t ht => ((hL t).1 ht).1) fun t ht => run_lt M tx hG (((hL t).1 ht).2.run M tx)
      have h := ih (p + 1) (placeF M tx p L sp).nx (if (placeF M tx p L sp).dn = [] then B else B.set p true) (placeF M tx p L sp).sp (by omega) (by omega) hn.1
      rw [Nat.succ_mul]
      omega
theorem ends_sp (hG : Good M) (f : Nat) (hf : f ≤ tx.length) : 1 ≤ (endsM M tx f).2 ∧ (endsM M tx f).2 ≤ (tx.length + 1) * M.length := by
  unfold endsM
  have hL : ∀ t : Nat × Nat, t ∈ [(0, f)] ↔ t.2 = f ∧ Ent M tx f t.1 f := by
    intro t
    simp only [List.mem_singleton]
    constructor
    · rintro rfl; exact ⟨rfl, .inl ⟨rfl, rfl⟩⟩
    · rintro ⟨h1, ⟨h2, _⟩ | ⟨i', p', h2, h3, h4, h5⟩⟩
      · exact Prod.ext h2 h1
      · have := run_le M tx h4; omega
  obtain ⟨d, hd⟩ : ∃ d, tx.length + 1 - f = d + 1 := ⟨tx.length - f, by omega⟩
  have h0 := endsF_sp M tx hG f (tx.length + 1 - f) f [(0, f)] (List.replicate (tx.length + 1) false) 0 (by omega) (Nat.le_refl _) hL
  refine ⟨?_, Nat.le_trans h0.1 (by rw [Nat.zero_add]; exact Nat.mul_le_mul_right _ (by omega))⟩
  rw [hd]
  unfold endsF
  rw [if_neg (by simp)]
  have hn := one_next M tx hG hL (Nat.le_refl _) 0
  have hp := place_sp M tx hG f [(0, f)] 0 (srt_one fun t ht => ((hL t).1 ht).1) fun t ht => run_lt M tx hG (((hL t).1 ht).2.run M tx)
  have h := endsF_sp M tx hG f d (f + 1) (placeF M tx f [(0, f)] 0).nx (if (placeF M tx f [(0, f)] 0).dn = [] then List.replicate (tx.length + 1) false else (List.replicate (tx.length + 1) false).set f true) (placeF M tx f [(0, f)] 0).sp (by omega) (by omega) hn.1
  have := hp.2.2 (by simp)
  omega
theorem fnd_l1 {f0 p : Nat} {L : List (Nat × Nat)} {b : Option (Nat × Nat)} (h : Fnd M tx f0 p L b) (_ : f0 ≤ p) (hG : Good M) : (if b.isNone then L ++ [(0, p)] else L).Pairwise (fun a c => a.2 ≤ c.2) ∧ ∀ t ∈ (if b.isNone then L ++ [(0, p)] else L), t.1 < M.length := by
  have hL : ∀ t ∈ L, t.1 < M.length := fun t ht => run_lt M tx hG ((h.snd t ht).2.2.run M tx)
  split
  · refine ⟨List.pairwise_append.2 ⟨h.srt, List.pairwise_singleton _ _, fun a ha c hc => ?_⟩, fun t ht => ?_⟩
    · simp only [List.mem_singleton] at hc
      subst hc
      exact Nat.le_of_lt (h.snd a ha).2.1
    · rcases List.mem_append.1 ht with h' | h'
      · exact hL t h'
      · simp only [List.mem_singleton] at h'
        subst h'
        exact hG.pos
  · exact ⟨h.srt, hL⟩
theorem findF_sp (hG : Good M) (f0 : Nat) : ∀ (k p : Nat) (L : List (Nat × Nat)) (b : Option (Nat × Nat)) (sp : Nat), f0 ≤ p → Fnd M tx f0 p L b → (findF M tx k p L b sp).2 ≤ sp + k * M.length ∧ sp ≤ (findF M tx k p L b sp).2 := by
  intro k
  induction k with
  | zero => intro p L b sp _ _; exact ⟨by simp [findF], Nat.le_refl _⟩
  | succ k ih =>
    intro p L b sp hfp h
    unfold findF
    split
    · exact ⟨by omega, Nat.le_refl _⟩
    · have h1 := fnd_l1 M tx h hfp hG
      have hp := place_sp M tx hG p _ sp h1.1 h1.2
      have h2 := ih _ _ _ (placeF M tx p (if b.isNone then L ++ [(0, p)] else L) sp).sp (by omega) (h.step M tx hG hfp sp)
      rw [Nat.succ_mul]
      omega
theorem find_sp (hG : Good M) (f : Nat) (hf : f ≤ tx.length) : 1 ≤ (findM M tx f).2 ∧ (findM M tx f).2 ≤ (tx.length + 1) * M.length := by
  unfold findM
  have hF : Fnd M tx f f [] none := ⟨List.Pairwise.nil, fun t ht => (by cases ht), fun g hg hb j hj => by simp only [BTo] at hb; omega, fun g q hg hq he => by have := isEnd_le M tx he; omega⟩
  obtain ⟨d, hd⟩ : ∃ d, tx.length + 1 - f = d + 1 := ⟨tx.length - f, by omega⟩
  have h0 := findF_sp M tx hG f (tx.length + 1 - f) f [] none 0 (Nat.le_refl _) hF
  refine ⟨?_, Nat.le_trans h0.1 (by rw [Nat.zero_add]; exact Nat.mul_le_mul_right _ (by omega))⟩
  rw [hd]
  unfold findF
  rw [if_neg (by simp)]
  have h1 := fnd_l1 M tx hF (Nat.le_refl _) hG
  have hp := place_sp M tx hG f _ 0 h1.1 h1.2
  have h2 := findF_sp M tx hG f d (f + 1) _ _ (placeF M tx f (if (none : Option (Nat × Nat)).isNone then [] ++ [(0, f)] else []) 0).sp (by omega) (hF.step M tx hG (Nat.le_refl _) 0)
  have := hp.2.2 (by simp)
  omega
end
end Go.Proofs.YtfmcjmkdlldlhaaDoor

namespace Go.Proofs.YtfmcjmkdlldlhaaDoor
open Go.RowKit
attribute [local go_sem] Oper.semAt_some

/-- As many steps as the model takes are counted right. -/
theorem counted_out (w : World) (m : Nat) (tx : List Int) (f : Int) (_hn : tx.length ≤ 400) (ho : outI tx f) :
    Calls Tryd.prog 20 #[.int .i64 0, .int .i64 (m : Int), .int .i64 (tx.length : Int), .int .i64 f] w fun e w' => e = .returned (.bool true) ∧ w = w' := by
  have ho' : f < 0 ∨ (tx.length : Int) < f := ho
  clear ho
  go_enter Tryd.func20, Tryd.ntmps20
  by_cases hneg : f < 0
  · have e0 : decide (f < 0) = true := decide_eq_true hneg
    clear ho'
    go_wp2_with fail
    go_ret
    exact ⟨rfl, rfl⟩
  · have e0 : decide (f < 0) = false := decide_eq_false hneg
    have e1 : decide ((tx.length : Int) < f) = true := decide_eq_true (by omega)
    clear ho'
    go_wp2_with fail
    go_ret
    exact ⟨rfl, rfl⟩
theorem counted_in (w : World) (s m : Nat) (tx : List Int) (f : Nat) (hn : tx.length ≤ 400) (hm : m ≤ 1048576) (hf : f ≤ tx.length) (h1 : 1 ≤ s) (h2 : s ≤ (tx.length + 1) * m) :
    Calls Tryd.prog 20 #[.int .i64 (s : Int), .int .i64 (m : Int), .int .i64 (tx.length : Int), .int .i64 (f : Int)] w fun e w' => e = .returned (.bool true) ∧ w = w' := by
  have e0 : decide ((f : Int) < 0) = false := decide_eq_false (by omega)
  have e1 : decide ((tx.length : Int) < (f : Int)) = false := decide_eq_false (by omega)
  have e1n : decide (tx.length < f) = false := decide_eq_false (by omega)
  have e2 : decide ((1 : Int) ≤ (s : Int)) = true := decide_eq_true (by omega)
  have e2n : decide (1 ≤ s) = true := decide_eq_true h1
  have e2m : decide (0 < s) = true := decide_eq_true h1
  have w1 : IntKind.i64.wrap ((tx.length : Int) + 2) = (tx.length : Int) + 2 := IntWalk.i64_in _ (by omega)
  have w2 : IntKind.i64.wrap (8 * (m : Int)) = 8 * (m : Int) := IntWalk.i64_in _ (by omega)
  have b1 : 0 ≤ 8 * (m : Int) * ((tx.length : Int) + 2) ∧ 8 * (m : Int) * ((tx.length : Int) + 2) ≤ 8388608 * 402 := ⟨Int.mul_nonneg (by omega) (by omega), Int.mul_le_mul (by omega) (by omega) (by omega) (by omega)⟩
  have w3 : IntKind.i64.wrap (8 * (m : Int) * ((tx.length : Int) + 2)) = 8 * (m : Int) * ((tx.length : Int) + 2) := IntWalk.i64_in _ (by omega)
  have b2 : 0 ≤ 8 * (m : Int) * ((tx.length : Int) + 2) * ((tx.length : Int) + 2) ∧ 8 * (m : Int) * ((tx.length : Int) + 2) * ((tx.length : Int) + 2) ≤ 8388608 * 402 * 402 := ⟨Int.mul_nonneg b1.1 (by omega), Int.mul_le_mul b1.2 (by omega) (by omega) (by omega)⟩
  have w4 : IntKind.i64.wrap (8 * (m : Int) * ((tx.length : Int) + 2) * ((tx.length : Int) + 2)) = 8 * (m : Int) * ((tx.length : Int) + 2) * ((tx.length : Int) + 2) := IntWalk.i64_in _ (by omega)
  have hle : s ≤ 8 * m * (tx.length + 2) * (tx.length + 2) := by
    refine Nat.le_trans h2 ?_
    have h3 : (tx.length + 1) * m ≤ (tx.length + 2) * m := Nat.mul_le_mul_right _ (by omega)
    have h4 : (tx.length + 2) * m ≤ (tx.length + 2) * (8 * m * (tx.length + 2)) := Nat.mul_le_mul_left _ (by
      have : 8 * m * 1 ≤ 8 * m * (tx.length + 2) := Nat.mul_le_mul_left _ (by omega)
      omega)
    rw [Nat.mul_comm (tx.length + 2) (8 * m * (tx.length + 2))] at h4
    exact Nat.le_trans h3 h4
  have e3 : (s : Int) ≤ 8 * (m : Int) * ((tx.length : Int) + 2) * ((tx.length : Int) + 2) := by exact_mod_cast hle
  have e4 : decide ((1048576 : Int) < (tx.length : Int) + 2) = false := decide_eq_false (by omega)
  have e5 : decide ((s : Int) ≤ 8 * (m : Int) * ((tx.length : Int) + 2) * ((tx.length : Int) + 2)) = true := decide_eq_true e3
  have hwr : ∀ K : Int, 0 ≤ K → K ≤ 8388608 * 402 * 402 → wrap64 K = K := fun K h1 h2 => by unfold wrap64; omega
  have HE5 := Lib.hid (show decide ((s : Int) ≤ wrap64 (8 * (m : Int) * ((tx.length : Int) + 2) * ((tx.length : Int) + 2))) = true by rw [hwr _ b2.1 b2.2]; exact e5)
  clear hle e3 e5 w4 b2 hwr
  go_enter Tryd.func20, Tryd.ntmps20
  go_wp2_with fail
  go_ret
  refine ⟨?_, rfl⟩
  exact congrArg (fun b => Ending.returned (Value.bool b)) HE5.out
theorem infoBoC : (Tryd.prog.info? 4).map (fun i => (i.zero, i.size, i.bytes)) = some (some (.bool false), 1, 1) := by kernel_rfl
theorem cellsB_one (l : List Bool) : ∀ u ∈ cellsB l, u.oneCell' = true := by
  intro u hu
  simp only [cellsB, List.mem_map] at hu
  obtain ⟨x, _, rfl⟩ := hu
  rfl
theorem copyBo_any (w : World) (lo : Nat) (v : Value) (l : List Bool) (F : Nat → Prop) (h : EndV w lo v l F) (hl : l.length ≤ 100000) : Calls Tryd.prog 17 #[v] w fun e w' => ∃ v', e = .returned v' ∧ w'.ownsRow w.heap.size 4 1 v' l.length (cellsB l) ∧ Below w.heap.size w w' := by
  obtain ⟨i0, hi, hz0, hz1, hz2⟩ := info_parts infoBoC
  have HZ : Hid (w.ownsRow w.heap.size 4 1 (.slice none 0 0) 0 []) := Lib.hid (World.ownsRow_nil _ _ _ _)
  rcases h with ⟨rfl, rfl⟩ | ⟨g, rfl, _, hA, _⟩
  · go_enter Tryd.func17, Tryd.ntmps17
    go_wp2_with fail
    go_ret
    exact ⟨_, rfl, World.ownsRow_nil _ _ _ _, Below.refl _ _⟩
  · have HN : Hid (∀ j u, (cellsB l)[j]? = some u → w.cell? ((⟨g, 0, none⟩ : Addr).add j) = some u) := Lib.hid fun j u hj => by
      rw [show (⟨g, 0, none⟩ : Addr).add j = ⟨g, j, none⟩ by simp [Addr.add]; exact fun h => h.symm, hA.cell]
      exact hj
    have hml : (cellsB l).length = l.length * 1 := by simp [cellsB]
    clear hA
    go_enter Tryd.func17, Tryd.ntmps17
    go_wp2_with (at_builtin; refine wpList_append_own_at _ rfl (.tmp 4) (.tmp 5) 71 rfl w.heap.size 4 i0 (.bool false) 1 1 Tryd.underlying71 hi hz0 hz1 hz2 rfl (by decide) _ 0 [] rfl HZ.out ⟨g, 0, none⟩ l.length l.length (cellsB l) rfl hml HN.out (cellsB_one l) (by unfold maxLen; omega) (by omega) (Nat.le_refl _) ?_)
    intro v' w1 hown hgrow _ _
    have HO : Hid (w1.ownsRow w.heap.size 4 1 v' l.length (cellsB l)) := Lib.hid (by simpa using hown)
    have HB2 := Lib.hid ((Below.refl w.heap.size w).grown hgrow (Nat.le_refl _) (fun k h => by simp [Value.ownBlock] at h))
    obtain ⟨av, cv, hv⟩ := own_shape HO.out
    subst hv
    clear hown hgrow hml
    go_wp2_with fail
    go_ret
    exact ⟨_, rfl, HO.out, HB2.out⟩
end Go.Proofs.YtfmcjmkdlldlhaaDoor

namespace Go.Proofs.YtfmcjmkdlldlhaaDoor
open Go.RowKit

theorem sizeBo (w : World) : (sizeOf (Tryd.prog.elem 71)).run Tryd.prog w = .ok 1 w := by kernel_rfl
theorem elemBo : Tryd.prog.underlying 71 = some (.slice (Tryd.prog.elem 71)) := by kernel_rfl
/-- l[lo:]. -/
theorem bsb_from {w : World} {g N : Nat} {l : List Bool} (h : BSb w (.slice (some ⟨g, 0, none⟩) N N) l) (lo : Nat) (hlo : lo < N) :
    (∀ W, (Instr.slice 71 (.slice (some ⟨g, 0, none⟩) N N) (some (.int .i64 lo)) none none).run Tryd.prog W = .ok (.slice (some ⟨g, lo, none⟩) (N - lo) (N - lo)) W) ∧ BSb w (.slice (some ⟨g, lo, none⟩) (N - lo) (N - lo)) (l.drop lo) := by
  obtain ⟨a, c, he, hl, hc⟩ := h
  simp only [Value.slice.injEq] at he
  obtain ⟨rfl, rfl, rfl⟩ := he
  refine ⟨fun W => ?_, some ⟨g, lo, none⟩, l.length - lo, by rw [List.length_drop], by rw [List.length_drop]; omega, .inr ⟨g, lo, rfl, fun i hi => ?_⟩⟩
  · rw [run_slice_l W 71 (some ⟨g, 0, none⟩) l.length l.length elemBo .i64 lo (by omega) (by omega), sizeBo]
    show Result.ok (sliced (some ⟨g, 0, none⟩) (Int.toNat (lo : Int)) l.length l.length 1) W = _
    unfold sliced
    rw [Int.toNat_natCast, if_neg (by omega)]
    simp [Addr.add]
    intro h
    exact h.symm
  · rw [List.length_drop] at hi
    rcases hc with rfl | ⟨b, o, hb, hc⟩
    · simp at hi
    · simp only [Option.some.injEq, Addr.mk.injEq, and_true] at hb
      obtain ⟨rfl, rfl⟩ := hb
      have := hc (lo + i) (by omega)
      rw [Nat.zero_add] at this
      rw [this, List.getElem?_drop]
/-- l[:hi]. -/
theorem bsb_upto {w : World} {g N : Nat} {l : List Bool} (h : BSb w (.slice (some ⟨g, 0, none⟩) N N) l) (hi : Nat) (hhi : hi ≤ N) (h0 : 0 < N) :
    (∀ W, (Instr.slice 71 (.slice (some ⟨g, 0, none⟩) N N) none (some (.int .i64 hi)) none).run Tryd.prog W = .ok (.slice (some ⟨g, 0, none⟩) hi N) W) ∧ BSb w (.slice (some ⟨g, 0, none⟩) hi N) (l.take hi) := by
  obtain ⟨a, c, he, hl, hc⟩ := h
  simp only [Value.slice.injEq] at he
  obtain ⟨rfl, rfl, rfl⟩ := he
  have hlen : (l.take hi).length = hi := by rw [List.length_take]; omega
  refine ⟨fun W => ?_, some ⟨g, 0, none⟩, l.length, by rw [hlen], by omega, .inr ⟨g, 0, rfl, fun i hi' => ?_⟩⟩
  · rw [run_slice_h W 71 (some ⟨g, 0, none⟩) l.length l.length elemBo .i64 hi (by omega) (by omega), sizeBo]
    show Result.ok (sliced (some ⟨g, 0, none⟩) 0 (Int.toNat (hi : Int)) l.length 1) W = _
    unfold sliced
    rw [Int.toNat_natCast, if_neg (by omega)]
    simp [Addr.add]
  · rw [hlen] at hi'
    rcases hc with rfl | ⟨b, o, hb, hc⟩
    · simp at h0
    · simp only [Option.some.injEq, Addr.mk.injEq, and_true] at hb
      obtain ⟨rfl, rfl⟩ := hb
      rw [hc i (by omega), List.getElem?_take_of_lt hi']
theorem long_big (w : World) (n : Nat) : Calls Tryd.prog 4 #[.int .i64 n] w fun e w' => e = .returned (.bool (decide (2147483647 < n))) ∧ w = w' := by
  by_cases h : 2147483647 < n
  · have h1 : (2147483647 : Int) < (n : Int) := by omega
    have hd := Lib.hid (decide_eq_true h)
    clear h
    go_enter Tryd.func4, Tryd.ntmps4
    go_wp2
    go_ret
    exact ⟨ret_bool hd.out.symm, rfl⟩
  · have h1 : ¬ (2147483647 : Int) < (n : Int) := by omega
    have hd := Lib.hid (decide_eq_false h)
    clear h
    go_enter Tryd.func4, Tryd.ntmps4
    go_wp2
    go_ret
    exact ⟨ret_bool hd.out.symm, rfl⟩
end Go.Proofs.YtfmcjmkdlldlhaaDoor

namespace Go.Proofs.YtfmcjmkdlldlhaaDoor
open Go.RowKit
attribute [local go_sem] Oper.semAt_some

/-- No end from t on, for the scan from the back. -/
theorem scan_step {l : List Bool} {t : Nat} (h : ∀ q, t < q → l[q]?.getD false = false) (ht : l[t]?.getD false = false) : ∀ q, t ≤ q → l[q]?.getD false = false := fun q hq => by
  rcases Nat.lt_or_eq_of_le hq with h1 | rfl
  · exact h q h1
  · exact ht
def RFindPost (W : World) (M : List Ins) (tx : List Int) (f : Int) (e : Ending) (W' : World) : Prop :=
  e = .returned (.tuple #[.agg #[.int .i64 (spF (findI M tx f).1), .int .i64 (spT (findI M tx f).1)], .bool (findI M tx f).1.isSome]) ∧ Below W.heap.size W W'
set_option maxRecDepth 100000 in
set_option maxHeartbeats 8000000 in
theorem refFind_any (W : World) (base : Nat) (M : List Ins) (g : Nat) (h : RSob W base M g) (hM : Mach M) (hR : ∀ x ∈ M, InR x) (tx : List Int) (vt : Value) (ht : SB W vt tx) (f : Int) (hn : tx.length ≤ 4194304) :
    Calls Tryd.prog 12 #[.pointer (some ⟨g, 0, none⟩), vt, .int .i64 f] W (RFindPost W M tx f) := by
  have HST := Lib.hid ht
  have HRS := Lib.hid h
  obtain ⟨hTB, at', ct, rfl, -, -⟩ := ht
  obtain ⟨mv, hgA, hgb, hmo⟩ := h
  have HGA := Lib.hid hgA
  have HMO := Lib.hid hmo
  have HM := Lib.hid hM
  have HR := Lib.hid hR
  have HN := Lib.hid hn
  have hb6 := (Below.refl W.heap.size W).alloc (Nat.le_refl _) (.cells #[.int .i64 0, .int .i64 0] TSp)
  have HA := Lib.hid (show At (W.alloc (.cells #[.int .i64 0, .int .i64 0] TSp)) W.heap.size TSp [.int .i64 0, .int .i64 0] from At.new W _ _)
  have HB := Lib.hid hb6
  have z1 : (W.alloc (.cells #[.int .i64 0, .int .i64 0] TSp)).cell? ⟨g, 1, none⟩ = some (.bool true) := (hgA.below hb6).cell 1
  clear hgA hgb hmo hM hR hn hb6 hTB
  go_enter Tryd.func12, Tryd.ntmps12
  go_upto_region 1 with fail
  generalize W.alloc (.cells #[.int .i64 0, .int .i64 0] TSp) = w0 at HB HA z1 ⊢
  obtain ⟨b6, hb6⟩ : ∃ b6, W.heap.size = b6 := ⟨_, rfl⟩
  have HB6 : Hid (W.heap.size = b6) := Lib.hid hb6
  rw [hb6] at HA ⊢
  clear hb6
  by_cases ho : outI tx f
  · have HOUT := Lib.hid (show findI M tx f = (none, 0) by unfold findI; rw [if_pos ho])
    have ho' : f < 0 ∨ (tx.length : Int) < f := ho
    have d0 : w0.cell? ⟨b6, 0, none⟩ = some (.int .i64 0) := HA.out.cell 0
    have d1 : w0.cell? ⟨b6, 1, none⟩ = some (.int .i64 0) := HA.out.cell 1
    have g0 := HA.out.frozen 0
    have g1 := HA.out.frozen 1
    clear ho
    by_cases hneg : f < 0
    · have e0 : decide (f < 0) = true := decide_eq_true hneg
      clear ho'
      go_wp2_with fail
      refine ret_cell_tmp (g := b6) (cs := [.int .i64 0, .int .i64 0]) rfl rfl ((HA.out.set 0 (.int .i64 0)).set 1 (.int .i64 0)) Tryd.underlying68 rfl (by kernel_rfl) rfl ?_
      refine ⟨by rw [HOUT.out]; rfl, ?_⟩
      exact (HB.out.setCell (p := ⟨b6, 0, none⟩) (Nat.le_of_eq HB6.out) (.int .i64 0)).setCell (p := ⟨b6, 1, none⟩) (Nat.le_of_eq HB6.out) (.int .i64 0)
    · have e0 : decide (f < 0) = false := decide_eq_false hneg
      have e1 : decide ((tx.length : Int) < f) = true := decide_eq_true (by omega)
      clear ho'
      go_wp2_with fail
      refine ret_cell_tmp (g := b6) (cs := [.int .i64 0, .int .i64 0]) rfl rfl ((HA.out.set 0 (.int .i64 0)).set 1 (.int .i64 0)) Tryd.underlying68 rfl (by kernel_rfl) rfl ?_
      refine ⟨by rw [HOUT.out]; rfl, ?_⟩
      exact (HB.out.setCell (p := ⟨b6, 0, none⟩) (Nat.le_of_eq HB6.out) (.int .i64 0)).setCell (p := ⟨b6, 1, none⟩) (Nat.le_of_eq HB6.out) (.int .i64 0)
  have ho' : ¬ (f < 0 ∨ (tx.length : Int) < f) := ho
  obtain ⟨f0, rfl⟩ : ∃ k : Nat, f = (k : Int) := ⟨f.toNat, by omega⟩
  have hf0 : f0 ≤ tx.length := by omega
  have HFL := Lib.hid (show findI M tx (f0 : Int) = findM M tx f0 by unfold findI; rw [if_neg ho, Int.toNat_natCast])
  have e0 : decide ((f0 : Int) < 0) = false := decide_eq_false (by omega)
  have e1 : decide ((tx.length : Int) < (f0 : Int)) = false := decide_eq_false (by omega)
  have e1n : decide (tx.length < f0) = false := decide_eq_false (by omega)
  have HF0 := Lib.hid hf0
  clear ho ho' hf0
  go_wp2_with fail
  go_loopw [8] (fun pv wr => ∃ p : Nat, pv = .int .i64 p ∧ f0 ≤ p ∧ p ≤ tx.length + 1 ∧ Below W.heap.size W wr ∧ At wr b6 TSp [.int .i64 0, .int .i64 0] ∧ ∀ g q, f0 ≤ g → g < p → ¬ IsEnd M tx g q) (fun pv _ => tx.length + 1 - (intOf pv).toNat)
  case atStart => exact ⟨f0, rfl, Nat.le_refl _, by have := HF0.out; omega, HB.out, HA.out, fun g q h1 h2 => by omega⟩
  case round =>
    obtain ⟨p, rfl, hfp, hpn, hbw, hat, hno⟩ := hrel
    have HBW := Lib.hid hbw
    have HAT := Lib.hid hat
    have HNO := Lib.hid hno
    have HFP := Lib.hid hfp
    have hnN := HN.out
    clear hno hfp HA HB z1
    by_cases hpl : p ≤ tx.length
    · have hpI : (p : Int) ≤ (tx.length : Int) := by omega
      have HRSr := Lib.hid (show RSob wr base M g from by
        obtain ⟨v, h1, h2, h3⟩ := HRS.out
        exact ⟨v, h1.keep (hbw.block g h1.lt), h2, own_blk h3 fun k hk => hbw.block k (World.ownsRow.lt h3 k hk).2⟩)
      have HE := Lib.hid (refEnds_any wr base M g HRSr.out HM.out HR.out tx _ (HST.out.below hbw) (p : Int) hnN)
      clear hbw hat
      go_wp2_with fail
      refine HE.out.mono ?_
      rintro e w3 ⟨v, rfl, hv, hb3⟩
      have hno3 : ¬ outI tx (p : Int) := by rintro (h | h) <;> omega
      have hll := endsI_len M HM.out tx (p : Int) hno3
      have hel : endsI M tx (p : Int) = endsM M tx p := by unfold endsI; rw [if_neg hno3, Int.toNat_natCast]
      rw [hel] at hv hll
      have HSP := Lib.hid (ends_spec M tx HM.out.shp.good p hpl)
      rcases hv with ⟨_, h0⟩ | ⟨go, rfl, _, hA, _⟩
      · rw [h0] at hll; simp at hll
      have HB3 := Lib.hid (HBW.out.trans (hb3.mono HBW.out.size))
      have HA3 := Lib.hid (HAT.out.below hb3)
      generalize (endsM M tx p).1 = l at hll hA HSP ⊢
      have HLC := Lib.hid (show ∀ t, t < tx.length + 1 → w3.cell? ⟨go, t, none⟩ = some (.bool (l[t]?.getD false)) from fun t ht => by
        rw [hA.cell, cellsB, List.getElem?_map, List.getElem?_eq_getElem (by omega)]
        rfl)
      have HLL := Lib.hid hll
      rw [hll]
      clear hel hA hll hb3 HE HRSr hno3
      go_wp2_with fail
      go_loopw [10] (fun tv wz => ∃ t : Int, tv = .int .i64 t ∧ (p : Int) - 1 ≤ t ∧ t ≤ (tx.length : Int) ∧ wz = w3 ∧ ∀ q : Nat, t < (q : Int) → l[q]?.getD false = false) (fun tv _ => (intOf tv + 1 - (p : Int)).toNat)
      case atStart => exact ⟨(tx.length : Int), rfl, by omega, Int.le_refl _, rfl, fun q hq => by rw [List.getElem?_eq_none (by rw [HLL.out]; omega)]; rfl⟩
      case round =>
        obtain ⟨t, rfl, ht1, ht2, hwz, htn⟩ := hrel
        subst hwz
        have HTN := Lib.hid htn
        clear htn
        by_cases hpt : (p : Int) ≤ t
        · obtain ⟨t0, rfl⟩ : ∃ k : Nat, t = (k : Int) := ⟨t.toNat, by omega⟩
          have hlc := HLC.out t0 (by omega)
          have htI : (t0 : Int) < (tx.length : Int) + 1 := by omega
          have hpt' : p ≤ t0 := by omega
          have htw : IntKind.i64.wrap ((t0 : Int) - 1) = (t0 : Int) - 1 := IntWalk.i64_in _ (by omega)
          cases hlt : l[t0]?.getD false with
          | true =>
            rw [hlt] at hlc
            have hfd : findM M tx f0 = (some (p, t0), (findM M tx f0).2) := by
              refine Prod.ext ?_ rfl
              refine find_some M tx HM.out.shp.good f0 HF0.out p t0 HFP.out hpl ((HSP.out.2 t0).1 hlt) HNO.out fun q hq he => ?_
              have := (HSP.out.2 q).2 he
              rw [HTN.out q (by omega)] at this
              cases this
            have HFD := Lib.hid hfd
            have d0 := HA3.out.cell 0
            have d1 := HA3.out.cell 1
            have g0 := HA3.out.frozen 0
            have g1 := HA3.out.frozen 1
            clear hlt hfd
            simp only [List.getElem?_cons_zero, List.getElem?_cons_succ] at d0 d1
            go_wp2_with fail
            refine ret_cell_tmp (g := b6) (cs := [.int .i64 (p : Int), .int .i64 (t0 : Int)]) rfl rfl ((HA3.out.set 0 (.int .i64 (p : Int))).set 1 (.int .i64 (t0 : Int))) Tryd.underlying68 rfl (by kernel_rfl) rfl ?_
            refine ⟨by rw [HFL.out, HFD.out]; rfl, ?_⟩
            exact (HB3.out.setCell (p := ⟨b6, 0, none⟩) (Nat.le_of_eq HB6.out) (.int .i64 (p : Int))).setCell (p := ⟨b6, 1, none⟩) (Nat.le_of_eq HB6.out) (.int .i64 (t0 : Int))
          | false =>
            rw [hlt] at hlc
            have HLT := Lib.hid hlt
            clear hlt
            go_wp2_with fail
            go_roundw
            case rel =>
              refine ⟨(t0 : Int) - 1, by first | rfl | go_num, by omega, by omega, by first | rfl | trivial, fun q hq => ?_⟩
              by_cases e : q = t0
              · subst e; exact HLT.out
              · exact HTN.out q (by omega)
            case measure => simp [intOf]; omega
        · have hnoE : ∀ q, ¬ IsEnd M tx p q := fun q he => by
            have h1 := (HSP.out.2 q).2 he
            have h2 := isEnd_le M tx he
            rw [HTN.out q (by omega)] at h1
            cases h1
          have HNE := Lib.hid hnoE
          have hptI : ¬ (p : Int) ≤ t := hpt
          have hpw : IntKind.i64.wrap ((p : Int) + 1) = (p : Int) + 1 := IntWalk.i64_in _ (by omega)
          clear hnoE
          go_wp2_with fail
          go_roundw
          case rel =>
            refine ⟨p + 1, by go_num, by have := HFP.out; omega, by omega, HB3.out, HA3.out, fun g q h1 h2 => ?_⟩
            rcases Nat.lt_succ_iff_lt_or_eq.1 h2 with h | rfl
            · exact HNO.out g q h1 h
            · exact HNE.out q
          case measure => simp [intOf]; omega
    · have hpI : ¬ (p : Int) ≤ (tx.length : Int) := by omega
      have hfn : (findM M tx f0).1 = none := find_nothing M tx HM.out.shp.good f0 HF0.out fun g q h1 h2 => HNO.out g q h1 (by omega)
      have HFN := Lib.hid hfn
      have d0 : wr.cell? ⟨b6, 0, none⟩ = some (.int .i64 0) := hat.cell 0
      have d1 : wr.cell? ⟨b6, 1, none⟩ = some (.int .i64 0) := hat.cell 1
      have g0 := hat.frozen 0
      have g1 := hat.frozen 1
      clear hfn
      go_wp2_with fail
      refine ret_cell_tmp (g := b6) (cs := [.int .i64 0, .int .i64 0]) rfl rfl ((HAT.out.set 0 (.int .i64 0)).set 1 (.int .i64 0)) Tryd.underlying68 rfl (by kernel_rfl) rfl ?_
      refine ⟨by rw [HFL.out, HFN.out]; rfl, ?_⟩
      exact (HBW.out.setCell (p := ⟨b6, 0, none⟩) (Nat.le_of_eq HB6.out) (.int .i64 0)).setCell (p := ⟨b6, 1, none⟩) (Nat.le_of_eq HB6.out) (.int .i64 0)
end Go.Proofs.YtfmcjmkdlldlhaaDoor

namespace Go.Proofs.YtfmcjmkdlldlhaaDoor
open Go.ChangeShapes Go.WideShapes Go.ChangeAt Go.RowKit Go.Deep

theorem len3 {α : Type} (l : List α) (h : l.length = 3) : ∃ a b c, l = [a, b, c] := by
  match l, h with
  | [a, b, c], _ => exact ⟨a, b, c, rfl⟩
theorem len4 {α : Type} (l : List α) (h : l.length = 4) : ∃ a b c d, l = [a, b, c, d] := by
  match l, h with
  | [a, b, c, d], _ => exact ⟨a, b, c, d, rfl⟩
theorem len6 {α : Type} (l : List α) (h : l.length = 6) : ∃ a b c d e f, l = [a, b, c, d, e, f] := by
  match l, h with
  | [a, b, c, d, e, f], _ => exact ⟨a, b, c, d, e, f, rfl⟩

section
variable {H : Type} {enc : TypeId × Value → H} {P : Program} {w : World} {base : Nat} {spare : Nat → Bool} {held : Bool}
theorem open_fields {r : Reach} {b0 : Nat} {t : TypeId} {fs : Array Field} {v : Value} {d : DataW H} {p : List MemPlace} (hs : P.underlying t = some (.struct fs)) (hone : oneCellFields P fs = true) (hC : P.cellsOf t = fs.size)
    (hv : Value.okWide P w r b0 t v) (h : DataW.Trod enc P w base spare held t v d p) :
    ∃ (cs : List Value) (ys : List (DataW H × List MemPlace)), v = .agg cs.toArray ∧ cs.length = fs.size ∧ ys.length = fs.size ∧ d = .agg (ys.map (·.1)) ∧
      ∀ (j : Nat) (f : Field) (c : Value) (y : DataW H × List MemPlace), fs[j]? = some f → cs[j]? = some c → ys[j]? = some y → ∃ n, DataW.trod enc P w base spare held n f.type [c] = some y := by
  obtain ⟨cs, rfl, hsz⟩ := okWide_struct hs hv
  obtain ⟨fuel, hf⟩ := h
  obtain ⟨xs, n, _, hx, _, hlen, hg⟩ := DataW.trod_struct hs hf
  simp only [Prod.mk.injEq] at hx
  refine ⟨cs.toList, xs, by simp, by simp [hsz, hC], hlen, hx.1, fun j f c y hj hc hy => ⟨n, ?_⟩⟩
  obtain ⟨ho, hk⟩ := hone_of hone j f hj
  have h1 := hg j f hj
  rw [ho, hk, hy] at h1
  rw [← h1]
  congr 1
  have hlt := (List.getElem?_eq_some_iff.1 hc).1
  simp only [Value.cells]
  rw [List.drop_eq_getElem_cons hlt, List.take_succ_cons, List.take_zero]
  rw [List.getElem?_eq_getElem hlt] at hc
  simp only [Option.some.injEq] at hc
  rw [hc]

theorem weightsEach_mem {ts : List TypeId} {ds : List (DataW H)} {i : Nat} {t : TypeId} {x : DataW H} (ht : ts[i]? = some t) (hx : ds[i]? = some x) : ∀ n ∈ x.weights P t, n ∈ DataW.weightsEach P ts ds :=
  DataW.weights_mem_each ht hx
/-- The bound on a list of bytes in a field. -/
theorem sized_field {ts : List TypeId} {ds : List (DataW H)} (h : (DataW.weightsEach P ts ds).all (· ≤ reachBytes) = true) {j : Nat} {t : TypeId} {d : DataW H} {fs : Array Field} (ht : ts[j]? = some t) (hd : ds[j]? = some d) (hu : P.underlying t = some (.struct fs))
    {i : Nat} {ft e : TypeId} (hft : (fs.toList.map (·.type))[i]? = some ft) {ys : List (DataW H × List MemPlace)} (hdd : d = .agg (ys.map (·.1))) {y : DataW H} (hy : (ys.map (·.1))[i]? = some y) {elems sp : List (DataW H)} (he : y = .slice elems sp)
    (hue : P.underlying ft = some (.slice e)) : (elems.length + sp.length) * P.bytesOf e ≤ reachBytes := by
  have h1 : (elems.length + sp.length) * P.bytesOf e ∈ y.weights P ft := by
    subst he
    rw [DataW.weights, hue]
    exact List.mem_cons_self
  have h2 : (elems.length + sp.length) * P.bytesOf e ∈ d.weights P t := by
    subst hdd
    rw [DataW.weights, hu]
    exact weightsEach_mem hft hy _ h1
  have := List.all_eq_true.1 h _ (weightsEach_mem ht hd _ h2)
  simpa using this
theorem slice_shape {t e : TypeId} {n : Nat} {c : Value} {y : DataW H × List MemPlace} (ht : P.underlying t = some (.slice e)) (he : P.underlying e = some (.int .u8)) (hce : P.cellsOf e = 1) (h : DataW.trod enc P w base spare held n t [c] = some y) : ∃ a l k, c = .slice a l k := by
  rcases open_ints ht he hce h with ⟨hcs, _⟩ | ⟨x, l, k, zs, hcs, _⟩
  · simp at hcs; exact ⟨_, _, _, hcs⟩
  · simp at hcs; exact ⟨_, _, _, hcs⟩
end
end Go.Proofs.YtfmcjmkdlldlhaaDoor

namespace Go.Proofs.YtfmcjmkdlldlhaaDoor
open Go.ChangeShapes Go.WideShapes Go.ChangeAt Go.RowKit

/-- The slice value v reads, in w, as the rows r of bytes. -/
def RB (w : World) (v : Value) (r : List (List Int)) : Prop :=
  ∃ a cap, v = .slice a r.length cap ∧ r.length ≤ 5864062014805 ∧ r.length ≤ cap ∧ (a = none → cap = 0) ∧
    (r = [] ∨ ∃ b off, a = some ⟨b, off, none⟩ ∧ ∀ i : Nat, i < r.length → ∃ ad n c, w.cell? ⟨b, off + i, none⟩ = some (.slice ad n c) ∧ SB w (.slice ad n c) (r[i]?.getD []) ∧ n ≤ c ∧ (ad = none → c = 0))

theorem RB.below {w w' : World} {v : Value} {r : List (List Int)} (h : RB w v r) (hb : Below w.heap.size w w') : RB w' v r := by
  obtain ⟨a, cap, rfl, h1, h2, h3, h4⟩ := h
  refine ⟨a, cap, rfl, h1, h2, h3, ?_⟩
  rcases h4 with h4 | ⟨b, off, ha, hc⟩
  · exact .inl h4
  · refine .inr ⟨b, off, ha, fun i hi => ?_⟩
    obtain ⟨ad, n, c, g1, g2, g3⟩ := hc i hi
    exact ⟨ad, n, c, by rw [hb.cell (World.block_lt_of_cell? w _ g1)]; exact g1, g2.below hb, g3⟩
theorem RB.len {w : World} {a : Option Addr} {n c : Nat} {r : List (List Int)} (h : RB w (.slice a n c) r) : r.length = n ∧ n ≤ 5864062014805 ∧ n ≤ c ∧ (a = none → c = 0) := by
  obtain ⟨_, _, he, h1, h2, h3, _⟩ := h
  simp only [Value.slice.injEq] at he
  obtain ⟨rfl, rfl, rfl⟩ := he
  exact ⟨rfl, h1, h2, h3⟩
theorem RB.read {w : World} {a : Option Addr} {n c : Nat} {r : List (List Int)} (h : RB w (.slice a n c) r) (k : Nat) (hk : k < n) : ∃ b o, a = some ⟨b, o, none⟩ ∧
    ∀ i : Nat, i < n → ∃ ad m cc, w.cell? ⟨b, o + i, none⟩ = some (.slice ad m cc) ∧ SB w (.slice ad m cc) (r[i]?.getD []) ∧ m ≤ cc ∧ (ad = none → cc = 0) := by
  obtain ⟨_, _, he, _, _, _, h4⟩ := h
  simp only [Value.slice.injEq] at he
  obtain ⟨rfl, rfl, rfl⟩ := he
  rcases h4 with rfl | ⟨b, o, hb, hc⟩
  · exact absurd hk (Nat.not_lt_zero _)
  · exact ⟨b, o, hb, hc⟩

theorem bytesS : Tryd.prog.bytesOf 25 = 24 := by kernel_rfl

section
variable {H : Type} {enc : TypeId × Value → H} {P : Program} {w : World} {base : Nat} {spare : Nat → Bool} {held : Bool}

theorem weightsAll_mem (e : TypeId) : ∀ (l : List (DataW H)) (x : DataW H), x ∈ l → ∀ n ∈ x.weights P e, n ∈ DataW.weightsAll P e l
  | d :: r, x, hx, n, hn => by
    rw [DataW.weightsAll, List.mem_append]
    rcases List.mem_cons.1 hx with rfl | hx
    · exact .inl hn
    · exact .inr (weightsAll_mem e r x hx n hn)
theorem sized_rows {ts : List TypeId} {ds : List (DataW H)} (h : (DataW.weightsEach P ts ds).all (· ≤ reachBytes) = true) {j : Nat} {t e q : TypeId} {elems sp : List (DataW H)} (ht : ts[j]? = some t) (hd : ds[j]? = some (.slice elems sp))
    (hu : P.underlying t = some (.slice e)) (hue : P.underlying e = some (.slice q)) (x : DataW H) (hx : x ∈ elems) (e2 s2 : List (DataW H)) (he : x = .slice e2 s2) : (e2.length + s2.length) * P.bytesOf q ≤ reachBytes := by
  have h1 : (e2.length + s2.length) * P.bytesOf q ∈ x.weights P e := by
    subst he
    rw [DataW.weights, hue]
    exact List.mem_cons_self
  have h2 := weightsAll_mem e elems x hx _ h1
  have h3 : (e2.length + s2.length) * P.bytesOf q ∈ (DataW.slice elems sp).weights P t := by
    rw [DataW.weights, hu]
    exact List.mem_cons_of_mem _ (List.mem_append_left _ h2)
  have h4 := DataW.weights_mem_each ht hd _ h3
  have := List.all_eq_true.1 h _ h4
  simpa using this

/-- A SLICE OF SLICES OF BYTES: it reads as rows. -/
theorem open_rb {t e q : TypeId} {a : Option Addr} {len cap : Nat} {d : DataW H} {p : List MemPlace} (ht : P.underlying t = some (.slice e)) (he : P.underlying e = some (.slice q)) (hq : P.underlying q = some (.int .u8)) (hce : P.cellsOf e = 1) (hcq : P.cellsOf q = 1)
    (h : DataW.Trod enc P w base spare held t (.slice a len cap) d p) (hsz : ∀ elems sp, d = .slice elems sp → elems.length + sp.length ≤ 5864062014805 ∧ ∀ x ∈ elems, ∀ e2 s2, x = .slice e2 s2 → e2.length + s2.length ≤ 140737488351232) :
    ∃ r : List (List Int), r.length = len ∧ RB w (.slice a len cap) r := by
  obtain ⟨fuel, hf⟩ := h
  rcases Go.Deep.open_slice ht hf with ⟨hcs, _⟩ | ⟨x, l, c, m, n, D, Pl, hcs, _, hl, hm, hmm, hx, hi⟩
  · simp [Value.cells] at hcs
    obtain ⟨rfl, rfl, rfl⟩ := hcs
    exact ⟨[], rfl, none, 0, rfl, by simp, by simp, fun _ => rfl, .inl rfl⟩
  · simp [Value.cells] at hcs
    obtain ⟨rfl, rfl, rfl⟩ := hcs
    simp only [Prod.mk.injEq] at hx
    obtain ⟨hb1, hb2⟩ := hsz _ _ hx.1
    simp only [List.length_map, List.length_range] at hb1
    have hlen : len ≤ m := by rw [hmm]; split <;> omega
    have hone : ∀ i, i < len → ∃ (ad : Option Addr) (k c : Nat) (l : List Int), w.cell? (x.add i) = some (.slice ad k c) ∧ SB w (.slice ad k c) l ∧ k ≤ c ∧ (ad = none → c = 0) := by
      intro i hil
      obtain ⟨cs', hc, ht'⟩ := hi i (by omega)
      rw [hce, Nat.mul_one] at hc
      obtain ⟨_, hcl, hat⟩ := World.cells?_some hc
      have hat0 := hat 0 (by omega)
      match cs', hcl with
      | [v], _ =>
        have hcell : w.cell? (x.add i) = some v := by simpa [Addr.add] using hat0
        have hD : D i ∈ (List.range len).map D := List.mem_map.2 ⟨i, List.mem_range.2 hil, rfl⟩
        have hsi := hb2 (D i) hD
        have shape : ∃ ad k c, v = .slice ad k c ∧ k ≤ c := by
          rcases open_ints he hq hcq ht' with ⟨hcs, _⟩ | ⟨y, l, c, zs, hcs, _, hl, _⟩
          · simp at hcs; exact ⟨_, _, _, hcs, by omega⟩
          · simp at hcs; exact ⟨_, _, _, hcs, hl⟩
        obtain ⟨ad, k, c, rfl, hkc⟩ := shape
        obtain ⟨l, _, hs, hn⟩ := open_sb (d := D i) (p := Pl i) he hq hcq ⟨n, ht'⟩ (fun e2 s2 e => hsi e2 s2 e)
        exact ⟨ad, k, c, l, hcell, hs, hkc, hn⟩
    have hone' : ∀ i, ∃ l : List Int, i < len → ∃ (ad : Option Addr) (k c : Nat), w.cell? (x.add i) = some (.slice ad k c) ∧ SB w (.slice ad k c) l ∧ k ≤ c ∧ (ad = none → c = 0) := by
      intro i
      by_cases hil : i < len
      · obtain ⟨ad, k, c, l, h⟩ := hone i hil
        exact ⟨l, fun _ => ⟨ad, k, c, h⟩⟩
      · exact ⟨[], fun h => absurd h hil⟩
    obtain ⟨F, hF⟩ := Classical.axiomOfChoice hone'
    refine ⟨(List.range len).map F, by simp, some x, cap, by simp, by simp; omega, by simp; omega, (fun h => by cases h), ?_⟩
    by_cases h0 : len = 0
    · subst h0; exact .inl rfl
    · obtain ⟨b, off, spot⟩ := x
      obtain ⟨ad, k, c, hc0, _⟩ := hF 0 (by omega)
      have hspot : spot = none := by simpa [Addr.add] using World.cell?_spot hc0
      subst hspot
      refine .inr ⟨b, off, rfl, fun i hi' => ?_⟩
      have hil : i < len := by simpa using hi'
      obtain ⟨ad, k, c, g1, g2, g3⟩ := hF i hil
      rw [show (⟨b, off, none⟩ : Addr).add i = ⟨b, off + i, none⟩ by simp [Addr.add]] at g1
      refine ⟨ad, k, c, g1, ?_, g3⟩
      rw [List.getElem?_map, List.getElem?_range hil]
      exact g2
end
end Go.Proofs.YtfmcjmkdlldlhaaDoor

namespace Go.Proofs.YtfmcjmkdlldlhaaDoor
open Go.ChangeShapes Go.WideShapes Go.ChangeAt Go.RowKit Go.Deep

/-- The kinds of fields. -/
inductive FK where
  | int (k : IntKind)
  | bool
  | str
  | bytes
  | rows
/-- What the fields of a struct hold, each under its number. -/
structure El where
  i : Nat → Int
  b : Nat → Bool
  s : Nat → ByteArray
  l : Nat → List Int
  r : Nat → List (List Int)
def El.zero : El := ⟨fun _ => 0, fun _ => false, fun _ => ByteArray.empty, fun _ => [], fun _ => []⟩
/-- The value v is field j of x. -/
def RK (w : World) (k : FK) (v : Value) (x : El) (j : Nat) : Prop := match k with
  | .int k => v = .int k (x.i j) ∧ (Lit.int k (x.i j)).wf = true
  | .bool => v = .bool (x.b j)
  | .str => v = .string (x.s j) ∧ (x.s j).size ≤ 140737488351232
  | .bytes => ∃ a n c, v = .slice a n c ∧ SB w v (x.l j) ∧ n ≤ c ∧ (a = none → c = 0)
  | .rows => ∃ a n c, v = .slice a n c ∧ RB w v (x.r j)
theorem RK.below {w w' : World} {k : FK} {v : Value} {x : El} {j : Nat} (h : RK w k v x j) (hb : Below w.heap.size w w') : RK w' k v x j := by
  cases k with
  | int k => exact h
  | bool => exact h
  | str => exact h
  | bytes => obtain ⟨a, n, c, e, hs, r⟩ := h; exact ⟨a, n, c, e, hs.below hb, r⟩
  | rows => obtain ⟨a, n, c, e, hs⟩ := h; exact ⟨a, n, c, e, hs.below hb⟩
/-- A struct's cells, in memory. -/
def ElAt (w : World) (b o : Nat) (ks : List FK) (x : El) : Prop := ∀ j k, ks[j]? = some k → ∃ v, w.cell? ⟨b, o + j, none⟩ = some v ∧ RK w k v x j
theorem ElAt.below {w w' : World} {b o : Nat} {ks : List FK} {x : El} (h : ElAt w b o ks x) (hb : Below w.heap.size w w') : ElAt w' b o ks x := fun j k hk => by
  obtain ⟨v, h1, h2⟩ := h j k hk
  exact ⟨v, by rw [hb.cell (World.block_lt_of_cell? w _ h1)]; exact h1, h2.below hb⟩
/-- A struct by value. -/
def ElV (w : World) (ks : List FK) (vs : List Value) (x : El) : Prop := vs.length = ks.length ∧ ∀ j k, ks[j]? = some k → ∃ v, vs[j]? = some v ∧ RK w k v x j
theorem ElV.below {w w' : World} {ks : List FK} {vs : List Value} {x : El} (h : ElV w ks vs x) (hb : Below w.heap.size w w') : ElV w' ks vs x := ⟨h.1, fun j k hk => by
  obtain ⟨v, h1, h2⟩ := h.2 j k hk
  exact ⟨v, h1, h2.below hb⟩⟩
/-- The slice value v reads, in w, as these structs. -/
def SS (w : World) (ks : List FK) (v : Value) (r : List El) : Prop :=
  ∃ a cap, v = .slice a r.length cap ∧ r.length ≤ 140737488351232 ∧ r.length ≤ cap ∧ (a = none → cap = 0) ∧
    (r = [] ∨ ∃ b off, a = some ⟨b, off, none⟩ ∧ ∀ i : Nat, i < r.length → ElAt w b (off + i * ks.length) ks (r[i]?.getD El.zero))
theorem SS.below {w w' : World} {ks : List FK} {v : Value} {r : List El} (h : SS w ks v r) (hb : Below w.heap.size w w') : SS w' ks v r := by
  obtain ⟨a, cap, rfl, h1, h2, h3, h4⟩ := h
  refine ⟨a, cap, rfl, h1, h2, h3, h4.imp_right ?_⟩
  rintro ⟨b, off, ha, hc⟩
  exact ⟨b, off, ha, fun i hi => (hc i hi).below hb⟩
theorem SS.len {w : World} {ks : List FK} {a : Option Addr} {n c : Nat} {r : List El} (h : SS w ks (.slice a n c) r) : r.length = n ∧ n ≤ 140737488351232 ∧ n ≤ c ∧ (a = none → c = 0) := by
  obtain ⟨_, _, he, h1, h2, h3, _⟩ := h
  simp only [Value.slice.injEq] at he
  obtain ⟨rfl, rfl, rfl⟩ := he
  exact ⟨rfl, h1, h2, h3⟩
theorem SS.read {w : World} {ks : List FK} {a : Option Addr} {n c : Nat} {r : List El} (h : SS w ks (.slice a n c) r) (k : Nat) (hk : k < n) : ∃ b o, a = some ⟨b, o, none⟩ ∧ ∀ i : Nat, i < n → ElAt w b (o + i * ks.length) ks (r[i]?.getD El.zero) := by
  obtain ⟨_, _, he, _, _, _, h4⟩ := h
  simp only [Value.slice.injEq] at he
  obtain ⟨rfl, rfl, rfl⟩ := he
  rcases h4 with rfl | ⟨b, o, hb, hc⟩
  · exact absurd hk (Nat.not_lt_zero _)
  · exact ⟨b, o, hb, hc⟩

/-- A type of that kind. -/
def KindOk (P : Program) (t : TypeId) (k : FK) : Prop := match k with
  | .int k => P.underlying t = some (.int k)
  | .bool => P.underlying t = some .bool
  | .str => P.underlying t = some .string
  | .bytes => ∃ q, P.underlying t = some (.slice q) ∧ P.underlying q = some (.int .u8) ∧ P.cellsOf q = 1 ∧ P.bytesOf q = 1
  | .rows => ∃ e q, P.underlying t = some (.slice e) ∧ P.underlying e = some (.slice q) ∧ P.underlying q = some (.int .u8) ∧ P.cellsOf e = 1 ∧ P.cellsOf q = 1 ∧ P.bytesOf q = 1 ∧ P.bytesOf e = 24
def KindsOk (P : Program) : List TypeId → List FK → Prop
  | [], [] => True
  | t :: ts, k :: ks => KindOk P t k ∧ KindsOk P ts ks
  | _, _ => False
theorem KindsOk.at {P : Program} : ∀ {ts : List TypeId} {ks : List FK}, KindsOk P ts ks → ts.length = ks.length ∧ ∀ (j : Nat) t k, ts[j]? = some t → ks[j]? = some k → KindOk P t k
  | [], [], _ => ⟨rfl, fun j t k h _ => by simp at h⟩
  | t :: ts, k :: ks, h => by
    obtain ⟨h1, h2⟩ := h
    obtain ⟨h3, h4⟩ := KindsOk.at h2
    refine ⟨by simp [h3], fun j t' k' a b => ?_⟩
    cases j with
    | zero => simp at a b; subst a b; exact h1
    | succ j => exact h4 j t' k' (by simpa using a) (by simpa using b)
  | [], _ :: _, h => h.elim
  | _ :: _, [], h => h.elim

section
variable {H : Type} {enc : TypeId × Value → H} {P : Program} {w : World} {base : Nat} {spare : Nat → Bool} {held : Bool}
theorem weightsAll_memS (e : TypeId) (x : DataW H) : ∀ (l : List (DataW H)), x ∈ l → ∀ n ∈ x.weights P e, n ∈ DataW.weightsAll P e l
  | y :: l, h, n, hn => by
    rw [DataW.weightsAll, List.mem_append]
    rcases List.mem_cons.1 h with rfl | h
    · exact .inl hn
    · exact .inr (weightsAll_memS e x l h n hn)
theorem weights_elemS {t e : TypeId} {elems sp : List (DataW H)} (hu : P.underlying t = some (.slice e)) (x : DataW H) (hx : x ∈ elems) : ∀ n ∈ x.weights P e, n ∈ (DataW.slice elems sp).weights P t := fun n hn => by
  rw [DataW.weights, hu]
  exact List.mem_cons_of_mem _ (List.mem_append_left _ (weightsAll_memS e x elems hx n hn))
theorem weights_selfS {t e : TypeId} {elems sp : List (DataW H)} (hu : P.underlying t = some (.slice e)) : (elems.length + sp.length) * P.bytesOf e ∈ (DataW.slice elems sp).weights P t := by
  rw [DataW.weights, hu]
  exact List.mem_cons_self
theorem slice_shapeK {t e : TypeId} {n : Nat} {c : Value} {y : DataW H × List MemPlace} (ht : P.underlying t = some (.slice e)) (h : DataW.trod enc P w base spare held n t [c] = some y) : ∃ a l k, c = .slice a l k := by
  rcases Go.Deep.open_slice ht h with ⟨hcs, _⟩ | ⟨x, l, k, _, _, _, _, hcs, _⟩
  · simp at hcs; exact ⟨_, _, _, hcs⟩
  · simp at hcs; exact ⟨_, _, _, hcs⟩
theorem weights_argS {ts : List TypeId} {ds : List (DataW H)} (h : (DataW.weightsEach P ts ds).all (· ≤ reachBytes) = true) {j : Nat} {t : TypeId} {d : DataW H} (ht : ts[j]? = some t) (hd : ds[j]? = some d) : ∀ n ∈ d.weights P t, n ≤ reachBytes := fun n hn => by
  have := List.all_eq_true.1 h _ (weightsEach_mem ht hd _ hn)
  simpa using this
/-- A field of that kind. -/
theorem open_kind {t : TypeId} {k : FK} {n : Nat} {c : Value} {y : DataW H × List MemPlace} (hk : KindOk P t k) (h : DataW.trod enc P w base spare held n t [c] = some y) (hw : ∀ m ∈ y.1.weights P t, m ≤ reachBytes) (j : Nat) : ∃ x : El, RK w k c x j := by
  cases k with
  | int k =>
    obtain ⟨z, e, -, wf⟩ := DataW.trod_int hk h
    simp only [List.cons.injEq, and_true] at e
    exact ⟨{ El.zero with i := fun _ => z }, e, wf⟩
  | bool =>
    obtain ⟨z, e, -⟩ := DataW.trod_bool hk h
    simp only [List.cons.injEq, and_true] at e
    exact ⟨{ El.zero with b := fun _ => z }, e⟩
  | str =>
    obtain ⟨z, e, hz, -⟩ := DataW.trod_string hk h
    simp only [List.cons.injEq, and_true] at e
    refine ⟨{ El.zero with s := fun _ => z }, e, ?_⟩
    have hmem : z.data.toList.length ∈ y.1.weights P t := by
      subst hz
      unfold DataW.weights
      exact List.mem_cons_self
    have := hw _ hmem
    simp only [reachBytes] at this
    show z.size ≤ _
    have e2 : z.data.toList.length = z.size := Array.length_toList
    omega
  | bytes =>
    obtain ⟨q, h1, h2, h3, h4⟩ := hk
    have hc : ∃ a l k, c = .slice a l k ∧ l ≤ k := by
      rcases open_ints h1 h2 h3 h with ⟨hcs, _⟩ | ⟨x, l, k, zs, hcs, _, hl, _⟩
      · simp at hcs; exact ⟨_, _, _, hcs, by omega⟩
      · simp at hcs; exact ⟨_, _, _, hcs, hl⟩
    obtain ⟨a, l, k, rfl, hlk⟩ := hc
    obtain ⟨z, -, hs, hn⟩ := open_sb (d := y.1) (p := y.2) h1 h2 h3 ⟨n, h⟩ (fun elems sp e => by
      have := hw ((elems.length + sp.length) * P.bytesOf q) (by rw [e]; exact weights_selfS h1)
      rw [h4] at this
      simp only [reachBytes] at this
      omega)
    exact ⟨{ El.zero with l := fun _ => z }, a, l, k, rfl, hs, hlk, hn⟩
  | rows =>
    obtain ⟨e, q, h1, h2, h3, h4, h5, h6, h7⟩ := hk
    obtain ⟨a, l, k, rfl⟩ := slice_shapeK h1 h
    obtain ⟨z, -, hs⟩ := open_rb (d := y.1) (p := y.2) h1 h2 h3 h4 h5 ⟨n, h⟩ (fun elems sp ee => by
      refine ⟨?_, fun x hx e2 s2 hxe => ?_⟩
      · have := hw ((elems.length + sp.length) * P.bytesOf e) (by rw [ee]; exact weights_selfS h1)
        rw [h7] at this
        simp only [reachBytes] at this
        omega
      · have := hw ((e2.length + s2.length) * P.bytesOf q) (by rw [ee]; exact weights_elemS h1 x hx _ (by rw [hxe]; exact weights_selfS h2))
        rw [h6] at this
        simp only [reachBytes] at this
        omega)
    exact ⟨{ El.zero with r := fun _ => z }, a, l, k, rfl, hs⟩
theorem RK.congr {k : FK} {v : Value} {x x' : El} {j : Nat} (h : RK w k v x j) (h1 : x'.i j = x.i j) (h2 : x'.b j = x.b j) (h3 : x'.s j = x.s j) (h4 : x'.l j = x.l j) (h5 : x'.r j = x.r j) : RK w k v x' j := by
  cases k <;> simp only [RK, h1, h2, h3, h4, h5] at h ⊢ <;> exact h
/-- Field by field. -/
theorem el_of {ks : List FK} {C : Nat → FK → El → Prop} (hC : ∀ j k (x x' : El), C j k x → x'.i j = x.i j → x'.b j = x.b j → x'.s j = x.s j → x'.l j = x.l j → x'.r j = x.r j → C j k x') (h : ∀ j k, ks[j]? = some k → ∃ x, C j k x) : ∃ x, ∀ j k, ks[j]? = some k → C j k x := by
  have hall : ∀ j, ∃ x, ∀ k, ks[j]? = some k → C j k x := fun j => by
    cases hk : ks[j]? with
    | none => exact ⟨El.zero, fun k e => by simp at e⟩
    | some k =>
      obtain ⟨x, hx⟩ := h j k hk
      exact ⟨x, fun k' e => by simp only [Option.some.injEq] at e; subst e; exact hx⟩
  obtain ⟨F, hF⟩ := Classical.axiomOfChoice hall
  exact ⟨⟨fun j => (F j).i j, fun j => (F j).b j, fun j => (F j).s j, fun j => (F j).l j, fun j => (F j).r j⟩, fun j k hk => hC j k (F j) _ (hF j k hk) rfl rfl rfl rfl rfl⟩
/-- A slice of such structs: cell by cell. -/
theorem open_structsS {t e : TypeId} {fs : Array Field} {a : Option Addr} {len cap : Nat} {d : DataW H} {p : List MemPlace} (ht : P.underlying t = some (.slice e)) (he : P.underlying e = some (.struct fs)) (hone : oneCellFields P fs = true) (hC : P.cellsOf e = fs.size)
    (h : DataW.Trod enc P w base spare held t (.slice a len cap) d p) :
    len ≤ cap ∧ (a = none → cap = 0) ∧ ∀ x, a = some x → ∃ (D : Nat → DataW H) (sp : List (DataW H)), d = .slice ((List.range len).map D) sp ∧
      ∀ i, i < len → ∃ (ys : List (DataW H × List MemPlace)) (n : Nat), D i = .agg (ys.map (·.1)) ∧
        ∀ (j : Nat) (f : Field), fs[j]? = some f → ∃ (v : Value) (y : DataW H × List MemPlace), w.cell? (x.add (i * fs.size + j)) = some v ∧ ys[j]? = some y ∧ DataW.trod enc P w base spare held n f.type [v] = some y := by
  obtain ⟨fuel, hf⟩ := h
  rcases Go.Deep.open_slice ht hf with ⟨hcs, _⟩ | ⟨x, l, c, m, n, D, Pl, hcs, _, hl, hm, hmm, hx, hi⟩
  · simp [Value.cells] at hcs
    obtain ⟨rfl, rfl, rfl⟩ := hcs
    exact ⟨Nat.le_refl _, fun _ => rfl, fun x h => by cases h⟩
  · simp [Value.cells] at hcs
    obtain ⟨rfl, rfl, rfl⟩ := hcs
    simp only [Prod.mk.injEq] at hx
    refine ⟨hl, (fun h => by cases h), fun x' hx' => ?_⟩
    simp only [Option.some.injEq] at hx'
    subst hx'
    refine ⟨D, _, hx.1, fun i hil => ?_⟩
    have him : i < m := by rw [hmm]; split <;> omega
    obtain ⟨cs', hc, ht'⟩ := hi i him
    rw [hC] at hc
    obtain ⟨ys, n', _, hy, _, hyl, hg⟩ := DataW.trod_struct he ht'
    obtain ⟨_, hcl, hat⟩ := World.cells?_some hc
    simp only [Prod.mk.injEq] at hy
    refine ⟨ys, n', hy.1, fun j f hj => ?_⟩
    obtain ⟨ho, hk⟩ := hone_of hone j f hj
    have hjl : j < fs.size := (Array.getElem?_eq_some_iff.1 hj).1
    have hjc : j < cs'.length := by omega
    have h1 := hg j f hj
    rw [ho, hk, List.drop_eq_getElem_cons hjc, List.take_succ_cons, List.take_zero] at h1
    have hcell := hat j hjl
    rw [List.getElem?_eq_getElem hjc] at hcell
    refine ⟨cs'[j], ys[j]'(by omega), ?_, List.getElem?_eq_getElem _, h1.trans (List.getElem?_eq_getElem _)⟩
    rw [← Go.Deep.add_add]
    exact hcell
/-- A SLICE OF STRUCTS: it reads as a list of them. -/
theorem open_ss {t e : TypeId} {fs : Array Field} {ks : List FK} {a : Option Addr} {len cap : Nat} {d : DataW H} {p : List MemPlace} (ht : P.underlying t = some (.slice e)) (he : P.underlying e = some (.struct fs)) (hone : oneCellFields P fs = true)
    (hC : P.cellsOf e = fs.size) (hB : 0 < P.bytesOf e) (hne : ks ≠ []) (hks : KindsOk P (fs.toList.map (·.type)) ks) (h : DataW.Trod enc P w base spare held t (.slice a len cap) d p) (hw : ∀ n ∈ d.weights P t, n ≤ reachBytes) :
    ∃ r : List El, r.length = len ∧ SS w ks (.slice a len cap) r := by
  obtain ⟨hlc, hN, hS⟩ := open_structsS ht he hone hC h
  obtain ⟨hkl, hkk⟩ := hks.at
  have hkl : fs.size = ks.length := by simpa using hkl
  cases a with
  | none =>
    have hc := hN rfl
    subst hc
    have hl : len = 0 := by omega
    subst hl
    exact ⟨[], rfl, Option.none, 0, rfl, by simp, by simp, fun _ => rfl, .inl rfl⟩
  | some x =>
    obtain ⟨D, sp, hd, hi⟩ := hS x rfl
    have hlen : len ≤ 140737488351232 := by
      have := hw (((List.range len).map D).length + sp.length |>.mul (P.bytesOf e)) (by rw [hd]; exact weights_selfS ht)
      simp only [List.length_map, List.length_range, reachBytes] at this
      have h2 : len ≤ (len + sp.length).mul (P.bytesOf e) := by
        show len ≤ (len + sp.length) * P.bytesOf e
        calc len ≤ (len + sp.length) * 1 := by omega
          _ ≤ _ := Nat.mul_le_mul_left _ hB
      omega
    have hone : ∀ i, ∃ z : El, i < len → ∀ j k, ks[j]? = some k → ∃ v, w.cell? (x.add (i * ks.length + j)) = some v ∧ RK w k v z j := by
      intro i
      by_cases hil : i < len
      · obtain ⟨ys, n, hD, hf⟩ := hi i hil
        have hmem : D i ∈ (List.range len).map D := List.mem_map.2 ⟨i, List.mem_range.2 hil, rfl⟩
        obtain ⟨z, hz⟩ := el_of (ks := ks) (C := fun j k z => ∃ v, w.cell? (x.add (i * ks.length + j)) = some v ∧ RK w k v z j) (fun j k z z' hv h1 h2 h3 h4 h5 => by
          obtain ⟨v, hv1, hv2⟩ := hv
          exact ⟨v, hv1, hv2.congr h1 h2 h3 h4 h5⟩) (fun j k hk => by
          have hj : j < fs.size := by rw [hkl]; exact (List.getElem?_eq_some_iff.1 hk).1
          obtain ⟨v, y, hc, hy, tr⟩ := hf j fs[j] (Array.getElem?_eq_getElem hj)
          obtain ⟨z, hz⟩ := open_kind (hkk j fs[j].type k (by simp [hj]) hk) tr (fun m hm => hw m (by
            rw [hd]
            refine weights_elemS ht (D i) hmem m ?_
            rw [hD, DataW.weights, he]
            exact weightsEach_mem (i := j) (by simp [hj]) (by rw [List.getElem?_map, hy]; rfl) m hm)) j
          exact ⟨z, v, by rw [← hkl]; exact hc, hz⟩)
        exact ⟨z, fun _ => hz⟩
      · exact ⟨El.zero, fun h => absurd h hil⟩
    obtain ⟨F, hF⟩ := Classical.axiomOfChoice hone
    have hget : ∀ i, i < len → ((List.range len).map F)[i]?.getD El.zero = F i := fun i hi => by simp [hi]
    refine ⟨(List.range len).map F, by simp, some x, cap, by simp, by simp; omega, by simp; omega, (fun h => by cases h), ?_⟩
    by_cases h0 : len = 0
    · subst h0; exact .inl rfl
    · obtain ⟨b, off, spot⟩ := x
      obtain ⟨k0, hk0⟩ : ∃ k0, ks[0]? = some k0 := by
        cases ks with
        | nil => exact absurd rfl hne
        | cons k0 _ => exact ⟨k0, rfl⟩
      obtain ⟨_, hc0, _⟩ := hF 0 (by omega) 0 k0 hk0
      have hspot : spot = Option.none := by simpa [Addr.add] using World.cell?_spot hc0
      subst hspot
      refine .inr ⟨b, off, rfl, fun i hi' => ?_⟩
      have hil : i < len := by simpa using hi'
      rw [hget i hil]
      intro j k hk
      obtain ⟨v, h1, h2⟩ := hF i hil j k hk
      refine ⟨v, ?_, h2⟩
      rw [show (⟨b, off, Option.none⟩ : Addr).add (i * ks.length + j) = ⟨b, off + i * ks.length + j, Option.none⟩ by simp [Addr.add, Nat.add_assoc]] at h1
      exact h1
end
end Go.Proofs.YtfmcjmkdlldlhaaDoor

namespace Go.Proofs.YtfmcjmkdlldlhaaDoor
open Go.RowKit

theorem take_eq_step (a b : List Int) (k : Nat) (h : k < a.length) (hl : a.length = b.length) (ht : a.take k = b.take k) (he : a[k]?.getD 0 = b[k]?.getD 0) : a.take (k + 1) = b.take (k + 1) := by
  rw [take_snoc a k h, take_snoc b k (by omega), ht, he]

set_option maxHeartbeats 400000 in
theorem eqBytes_any (w : World) (va vb : Value) (a b : List Int) (ha : SB w va a) (hb : SB w vb b) :
    Calls Tryd.prog 18 #[va, vb] w fun e w' => e = .returned (.bool (decide (a = b))) ∧ ∃ n, w' = w.drewN n := by
  obtain ⟨hA, aa, ca, rfl, hla, hca⟩ := ha
  obtain ⟨hB, ab, cb, rfl, hlb, hcb⟩ := hb
  by_cases hl : a.length = b.length
  · by_cases h0 : a.length = 0
    · have ea : a = [] := List.eq_nil_of_length_eq_zero h0
      have eb : b = [] := List.eq_nil_of_length_eq_zero (by omega)
      subst ea eb
      clear hca hcb hl h0
      go_enter Tryd.func18, Tryd.ntmps18
      go_wp2
      go_loop [5] (fun i => i = .int .i64 0) (fun _ => 0)
      case atStart => rfl
      case round =>
        subst hrel
        go_wp2
        go_ret
        exact ⟨rfl, 0, rfl⟩
    · obtain ⟨ba, oa, rfl, hcA⟩ := hca.resolve_left (by intro e; simp [e] at h0)
      obtain ⟨bb, ob, rfl, hcB⟩ := hcb.resolve_left (by intro e; rw [e] at hl; exact h0 hl)
      clear hca hcb
      have hne : ((a.length : Int) != (b.length : Int)) = false := by rw [bne_eq_false_iff_eq]; omega
      have hl1 : a.length ≤ b.length := by omega
      have hl2 : b.length ≤ a.length := by omega
      have HL := Lib.hid hl
      have HA := Lib.hid hcA
      have HB := Lib.hid hcB
      clear hl hcA hcB
      go_enter Tryd.func18, Tryd.ntmps18
      go_wp2
      go_loopw [5] (fun i wr => ∃ k q : Nat, k ≤ a.length ∧ i = .int .i64 k ∧ a.take k = b.take k ∧ wr = w.drewN q) (fun i _ => a.length - (intOf i).toNat)
      case atStart => exact ⟨0, 0, Nat.zero_le _, rfl, rfl, rfl⟩
      case round =>
        obtain ⟨k, q, hk, rfl, ht, rfl⟩ := hrel
        have Ht := Lib.hid ht
        clear ht
        by_cases hlt : k < a.length
        · have h1 := HA.out k hlt
          have h2 := HB.out k (by omega)
          have hst := fun he => take_eq_step a b k hlt HL.out Ht.out he
          have hnd : a[k]?.getD 0 ≠ b[k]?.getD 0 → decide (a = b) = false := by
            intro hne; simp; intro e; exact hne (by rw [e])
          generalize a[k]?.getD 0 = x at h1 hst hnd
          generalize b[k]?.getD 0 = y at h2 hst hnd
          by_cases he : x = y
          · subst he
            have Hst := Lib.hid (hst rfl)
            clear hst hnd
            go_wp2
            go_quiet (fail)
            go_wp2
            go_roundw
            case rel => exact ⟨k + 1, _, by omega, by go_num, Hst.out, rfl⟩
            case measure => simp [intOf]; omega
          · have hn : (x != y) = true := by rw [bne_iff_ne]; exact he
            have Hd := Lib.hid (hnd he)
            clear hst hnd he
            go_wp2
            go_quiet (fail)
            go_wp2
            go_ret
            exact ⟨ret_bool Hd.out.symm, _, World.drewN_drewN _ _ _⟩
        · have hd : decide (a = b) = true := by
            have := Ht.out
            rw [List.take_of_length_le (by omega), List.take_of_length_le (by omega)] at this
            simpa using this
          have Hd := Lib.hid hd
          clear hd
          go_wp2
          go_ret
          exact ⟨ret_bool Hd.out.symm, _, rfl⟩
  · have hne : ((a.length : Int) != (b.length : Int)) = true := by rw [bne_iff_ne]; omega
    have hd : decide (a = b) = false := by
      simp; intro e; exact hl (by rw [e])
    rw [hd]
    clear hca hcb hA hB
    go_enter Tryd.func18, Tryd.ntmps18
    go_wp2
    go_ret
    exact ⟨rfl, 0, rfl⟩
end Go.Proofs.YtfmcjmkdlldlhaaDoor

namespace Go.Proofs.YtfmcjmkdlldlhaaDoor
open Go.RowKit

/-- The mark that stands at place j behind a list. -/
def markAt (j : Nat) : Int := ((282 + 7 * j) % 256 : Nat)
theorem markAt_b (j : Nat) : 0 ≤ markAt j ∧ markAt j ≤ 255 := by unfold markAt; omega
theorem markAt_wrap (j : Nat) : IntKind.u8.wrap (279 + 7 * (j : Int) + 3) = markAt j := by
  unfold markAt
  simp [IntKind.wrap, IntKind.bits, IntKind.signed]
  omega

/-- A list and its marks: n places, then 64 marks. -/
def wide (l : List Int) : List Int := l ++ (List.range 64).map fun i => markAt (l.length + i)
theorem wide_len (l : List Int) : (wide l).length = l.length + 64 := by simp [wide]
theorem wide_lo (l : List Int) (j : Nat) (h : j < l.length) : (wide l)[j]?.getD 0 = l[j]?.getD 0 := by
  unfold wide; rw [List.getElem?_append_left h]
theorem wide_hi (l : List Int) (j : Nat) (h : l.length ≤ j) (h2 : j < l.length + 64) : (wide l)[j]?.getD 0 = markAt j := by
  unfold wide
  rw [List.getElem?_append_right h, List.getElem?_map, List.getElem?_range (by omega)]
  simp only [Option.map_some, Option.getD_some]
  congr 1
  omega

theorem madeBL (w : World) (n : Nat) (hn : n ≤ 140737488355328) : (Instr.makeSlice 25 (.int .i64 n) (.int .i64 n)).run Tryd.prog w = .ok (.slice (some ⟨w.heap.size, 0, none⟩) n n) (w.alloc (.cells (row (List.replicate n 0)) 5)) := by
  obtain ⟨i, hi, hz, hs, hb⟩ := info_parts infoB
  have h := run_make (P := Tryd.prog) w 25 5 i (.int .u8 0) Tryd.underlying25 hi hz .i64 .i64 n n (by omega) (by omega) (by rw [hb]; omega) (by omega)
  rw [h, hs]
  have e : madeCells (Value.cells (.int .u8 0)) ((n : Int).toNat * 1) = row (List.replicate n 0) := by
    apply Array.ext'
    simp [madeCells, row, Value.cells, Nat.mod_one]
    exact List.eq_replicate_iff.2 ⟨by simp, fun b hb => by simp at hb; obtain ⟨_, _, rfl⟩ := hb; rfl⟩
  rw [e]
  simp

theorem madeWide (w : World) (n : Nat) (hn : n ≤ 140737488351232) : (Instr.makeSlice 25 (.int .i64 ((n : Int) + 64)) (.int .i64 ((n : Int) + 64))).run Tryd.prog w = .ok (.slice (some ⟨w.heap.size, 0, none⟩) (n + 64) (n + 64)) (w.alloc (.cells (row (List.replicate (n + 64) 0)) 5)) := by
  have := madeBL w (n + 64) (by omega)
  rwa [show ((n + 64 : Nat) : Int) = (n : Int) + 64 by omega] at this

set_option maxHeartbeats 400000 in
theorem wideL_any (w : World) (v : Value) (l : List Int) (hb : SB w v l) (hl : l.length ≤ 140737488351232) :
    Calls Tryd.prog 10 #[v] w fun e w' => e = .returned (.slice (some ⟨w.heap.size, 0, none⟩) l.length (l.length + 64)) ∧ Arr w' w.heap.size 5 (wide l) ∧ Below w.heap.size w w' := by
  obtain ⟨hB, a, c, rfl, _, hc⟩ := hb
  have hm := fun w => madeWide w l.length hl
  have Hlen := Lib.hid (List.length_replicate (n := l.length + 64) (a := (0 : Int)))
  have h1 : Arr (w.alloc (.cells (row (List.replicate (l.length + 64) 0)) 5)) w.heap.size 5 (List.replicate (l.length + 64) 0) := Arr.new _ _ _
  have hbe : Below w.heap.size w (w.alloc (.cells (row (List.replicate (l.length + 64) 0)) 5)) := (Below.refl _ w).alloc (Nat.le_refl _) _
  have HC := Lib.hid hc
  have hB' := Lib.hid hB
  clear hc hB
  go_enter Tryd.func10, Tryd.ntmps10
  go_wp2
  go_loopw [4] (fun i wr => ∃ (k : Nat) (m : List Int), k ≤ l.length + 64 ∧ i = .int .i64 k ∧ m.length = l.length + 64 ∧ (∀ j : Nat, j < k → m[j]?.getD 0 = (wide l)[j]?.getD 0) ∧
    Arr wr w.heap.size 5 m ∧ Below w.heap.size w wr) (fun i _ => l.length + 64 - (intOf i).toNat)
  case atStart => exact ⟨0, _, Nat.zero_le _, rfl, Hlen.out, fun j hj => by omega, h1, hbe⟩
  case round =>
    obtain ⟨k, m, hk, rfl, hml, hmj, r1, rb⟩ := hrel
    have HML := Lib.hid hml
    have HMJ := Lib.hid hmj
    clear hml hmj h1 hbe hm
    by_cases hlt : k < l.length + 64
    · have hc1 := r1.cell k (by rw [HML.out]; exact hlt)
      have hf1 := r1.frozen k
      have hst : ∀ y : Int, y = (wide l)[k]?.getD 0 → ∀ j : Nat, j < k + 1 → (m.set k y)[j]?.getD 0 = (wide l)[j]?.getD 0 := by
        intro y ey j hj
        rw [List.getElem?_set]
        split
        · subst_vars
          rw [if_pos (by rw [HML.out]; exact hlt)]; rfl
        · exact HMJ.out j (by omega)
      by_cases hin : k < l.length
      · obtain ⟨b, o, rfl, hcc⟩ := HC.out.resolve_left (by intro e; rw [e] at hin; exact absurd hin (Nat.not_lt_zero _))
        have hck := hcc k hin
        rw [← rb.cell (World.block_lt_of_cell? w _ hck)] at hck
        have hst2 := hst _ (wide_lo l k hin).symm
        generalize l[k]?.getD 0 = x at hck hst2
        have Hst := Lib.hid hst2
        clear hst hst2 hcc
        go_wp2
        go_roundw
        case rel => exact ⟨k + 1, m.set k x, by omega, by go_num, by rw [List.length_set, HML.out], Hst.out, r1.set _ _, rb.setCell (by simp) _⟩
        case measure => simp [intOf]; omega
      · have hst2 := Lib.hid (hst _ (wide_hi l k (by omega) hlt).symm)
        have hw := markAt_wrap k
        clear hst
        go_wp2
        go_roundw
        case rel => exact ⟨k + 1, m.set k (markAt k), by omega, by go_num, by rw [List.length_set, HML.out], hst2.out, r1.set _ _, rb.setCell (by simp) _⟩
        case measure => simp [intOf]; omega
    · have e : m = wide l := ext_of m (wide l) (by rw [HML.out, wide_len]) fun j hj => HMJ.out j (by rw [HML.out] at hj; omega)
      subst e
      go_wp2
      go_ret
      exact ⟨rfl, r1, rb⟩

/-- A row with its marks, as a list that is handed in. -/
theorem Arr.wide_sb {w : World} {g : Nat} {T : TypeId} {l m : List Int} (h : Arr w g T (l ++ m)) (hB : IsB l) (hl : l.length ≤ 140737488351232) (cap : Nat) : SB w (.slice (some ⟨g, 0, none⟩) l.length cap) l :=
  ⟨hB, _, cap, rfl, hl, .inr ⟨g, 0, rfl, fun i hi => by
    rw [Nat.zero_add, h.cell i (by rw [List.length_append]; omega), List.getElem?_append_left hi]⟩⟩

set_option maxHeartbeats 400000 in
theorem spareL_any (w : World) (g n : Nat) (T : TypeId) (hn : n ≤ 140737488351232) (m : List Int) (hm : m.length = n + 64) (hmj : ∀ j : Nat, n ≤ j → j < n + 64 → m[j]?.getD 0 = markAt j) (h : Arr w g T m) :
    Calls Tryd.prog 19 #[.slice (some ⟨g, 0, none⟩) n (n + 64)] w fun e w' => e = .returned (.bool true) ∧ ∃ q, w' = w.drewN q := by
  have HM := Lib.hid hm
  have HMJ := Lib.hid hmj
  clear hm hmj
  go_enter Tryd.func19, Tryd.ntmps19
  go_wp2
  go_loop [4] (fun i => ∃ k : Nat, n ≤ k ∧ k ≤ n + 64 ∧ i = .int .i64 k) (fun i => n + 64 - (intOf i).toNat)
  case atStart => exact ⟨n, Nat.le_refl _, by omega, rfl⟩
  case round =>
    obtain ⟨k, hk1, hk2, rfl⟩ := hrel
    by_cases hlt : k < n + 64
    · have hc := h.cell k (by rw [HM.out]; exact hlt)
      rw [HMJ.out k hk1 hlt] at hc
      have hw := markAt_wrap k
      go_wp2
      go_round
      case rel => exact ⟨k + 1, by omega, by omega, by go_num⟩
      case measure => simp [intOf]; omega
    · go_wp2
      go_ret
      exact ⟨rfl, 0, rfl⟩

theorem wide_any (w : World) (v : Value) (l : List Int) (hb : SB w v l) (hl : l.length ≤ 2147483647) :
    Calls Tryd.prog 10 #[v] w fun e w' => e = .returned (.slice (some ⟨w.heap.size, 0, none⟩) l.length (l.length + 64)) ∧ Arr w' w.heap.size 5 (wide l) ∧ Below w.heap.size w w' := wideL_any w v l hb (by omega)
theorem spare_any (w : World) (g n : Nat) (T : TypeId) (hn : n ≤ 2147483647) (m : List Int) (hm : m.length = n + 64) (hmj : ∀ j : Nat, n ≤ j → j < n + 64 → m[j]?.getD 0 = markAt j) (h : Arr w g T m) :
    Calls Tryd.prog 19 #[.slice (some ⟨g, 0, none⟩) n (n + 64)] w fun e w' => e = .returned (.bool true) ∧ ∃ q, w' = w.drewN q := spareL_any w g n T (by omega) m hm hmj h
end Go.Proofs.YtfmcjmkdlldlhaaDoor

namespace Go.Proofs.YtfmcjmkdlldlhaaDoor
open Go.RowKit

attribute [local go_sem] Oper.semAt_some

/-- A call of a Go function at a step of a region that draws its order. -/
theorem step_callsE {P : Program} {ops : Array Oper} {o : Oper} {a : Act} {w : World} {K : Act → World → Prop} {Q : Exit → Act → World → Prop} {E : Prop} {R : Value → World → Prop} (hg : o.guard = none) (f : FuncId) (s : Array Operand) (ts : Array TypeId)
    (hop : o.op = .call { callee := .value (.func f), args := s, argTypes := ts }) (vs : Array Value) (hv' : (s.toList.map a.eval).toArray = vs) (hrun : ∀ W, (callFunc f vs).run P W = .ok (.enter f vs) W)
    (hC : Calls P f vs w fun e w' => ∃ v, e = .returned v ∧ R v w') (hK : ∀ v w', R v w' → K (a.put o.dst v) w') :
    if Region.wanted o (yielded ops a.tmps) = true then Oper.wp P o a w K Q else E := by
  have hw : Region.wanted o (yielded ops a.tmps) = true := by simp [Region.wanted, hg]
  rw [if_pos hw]
  have hv : s.map a.eval = vs := by rw [← hv', ← Array.toList_map]
  subst hv
  have h : (execOp a.eval o).run P w = .ok (.enter f (s.map a.eval)) w := by
    unfold execOp
    simp [hop, resolve, invoke, Deferred.ofValue, hrun, go_sem]
  unfold Oper.wp
  rw [h, Oper.upon_enter]
  refine hC.mono ?_
  rintro e w' ⟨v, rfl, hb⟩
  exact hK v w' hb
end Go.Proofs.YtfmcjmkdlldlhaaDoor

namespace Go.Proofs.YtfmcjmkdlldlhaaDoor
open Go.ChangeShapes Go.WideShapes Go.ChangeAt Go.RowKit

section
variable {H : Type} {enc : TypeId × Value → H}
/-- A law's contract under a condition on the heap, the world's shape at hand. -/
theorem returns_laid3 {a : Assume} {C : Checked} {os : Os} {f : FuncId} {fn : Func} {s : ChangeSpec} {conds : List PathCond} {apart fresh handsOn again : Bool} {X : World → Array Value → Prop}
    (hX : ∀ (w w' : World) (args : Array Value), w.heap = w'.heap → X w args → X w' args)
    (own : ownKnob C.prog.godebug = none) (started : os.Started) (noInit : C.prog.inits.idxOf? f = none) (hfn : C.prog.funcs[f]? = some fn)
    (witness : ∃ (w : World) (tape : Tape) (i : Input), w.os = os ∧ (w.forCall tape i).Shaped C.prog ∧ i.vars = [] ∧ Input.okWide C.prog (w.forCall tape i) .any w.heap.size f i ∧
      ((s.pre enc C.prog fn conds apart (w.forCall tape i).memory i.args ∧ X (w.forCall tape i).memory i.args) ∧ sizedMet enc C.prog fn (OpenSpec.ofChange s) apart (w.forCall tape i).memory i.args) ∧ a.holds C.prog (lone (Frame.enter C.prog f i.args .normal) [] (w.forCall tape i)))
    (contract : ∀ (W : World) (args : Array Value) (ds gs : List (DataW H)) (before : List MemPlace),
      (∀ (base : Nat), (∀ (j : Nat) t v, fn.params[j]? = some t → args[j]? = some v → Value.okWide C.prog W .any base t v) → DataW.Whole enc C.prog fn.params.toList s.vars apart W args.toList ds gs before →
      (DataW.weightsEach C.prog (fn.params.toList ++ s.plain.varTypes C.prog) (ds ++ gs)).all (· ≤ reachBytes) = true → X W args → W.ShapedOpen C.prog →
      Calls C.prog f args W fun e W' => ∃ v, e = .returned v ∧ s.post enc C.prog fn apart fresh handsOn again W args v W')) :
    ReturnsInHanded a C os f .any (fun w args => (s.pre enc C.prog fn conds apart w args ∧ X w args) ∧ sizedMet enc C.prog fn (OpenSpec.ofChange s) apart w args) (s.post enc C.prog fn apart fresh handsOn again) := by
  refine returnsInHanded_of_calls own started noInit witness ?_
  intro w tape i _ hsh _ hok hpre _
  obtain ⟨_, _, _, fn', hfn', _, _, _, _, hval⟩ := hok
  obtain rfl : fn' = fn := Option.some.inj (hfn'.symm.trans hfn)
  obtain ⟨⟨⟨ds, gs, before, hw, _⟩, hx⟩, hz⟩ := hpre
  refine (contract (w.forCall tape i) i.args ds gs before w.heap.size hval (DataW.Whole.of_heap (w' := w.forCall tape i) (by rfl) hw) (hz.weights hw) (hX _ _ _ (by rfl) hx) hsh).mono fun e W' ⟨v, he, hp⟩ => ?_
  subst he
  exact ChangeSpec.post_blind hp
end
end Go.Proofs.YtfmcjmkdlldlhaaDoor

namespace Go.Proofs.YtfmcjmkdlldlhaaDoor
end Go.Proofs.YtfmcjmkdlldlhaaDoor
