/-
  Find and Ends from any place; a copy of a text; a search of a law.
-/
import Derived.Test.YtfmcjmkdlldlhaaDoorLgEn
import Derived.Test.YtfmcjmkdlldlhaaDoorLgH
import Derived.Test.YtfmcjmkdlldlhaaDoorLgO
import Derived.Test.YtfmcjmkdlldlhaaDoorLgB
import Derived.Test.YtfmcjmkdlldlhaaDoorLgN
import Derived.Test.YtfmcjmkdlldlhaaDoorLgMa
namespace Go.Proofs.YtfmcjmkdlldlhaaDoor
open Go.RowKit

def outI (tx : List Int) (f : Int) : Prop := f < 0 ∨ (tx.length : Int) < f
instance (tx : List Int) (f : Int) : Decidable (outI tx f) := by unfold outI; infer_instance
def findI (M : List Ins) (tx : List Int) (f : Int) : Option (Nat × Nat) × Nat := if outI tx f then (none, 0) else findM M tx f.toNat
def endsI (M : List Ins) (tx : List Int) (f : Int) : List Bool × Nat := if outI tx f then ([], 0) else endsM M tx f.toNat

theorem OwnB.tx {W : World} {base n c : Nat} {a : Option Addr} {l : List Int} (hB : IsB l) (h : OwnB W base (.slice a n c) l) (hl : l.length ≤ 140737488351232) : n = l.length ∧ TxR W a n c l := by
  obtain rfl := own_len h
  refine ⟨rfl, h.sb hB hl, fun x hx => ?_⟩
  subst hx
  rcases h.2 with ⟨h1, _⟩ | ⟨g, cap, cur, h1, _, hg, _⟩
  · cases h1
  · simp only [Value.slice.injEq, Option.some.injEq] at h1
    obtain ⟨rfl, _⟩ := h1
    exact ⟨_, _, hg⟩
theorem TxR.below {W W' : World} {a : Option Addr} {n c : Nat} {l : List Int} (h : TxR W a n c l) (hb : Below W.heap.size W W') : TxR W' a n c l := h.keep (KeepU.of_below hb)
theorem TxR.len {W : World} {a : Option Addr} {n c : Nat} {l : List Int} (h : TxR W a n c l) : l.length = n := h.1.len.1

/-- What every machine that New has taken keeps to. -/
structure Mach (M : List Ins) : Prop where
  sh : shapedM M = true
  cls : ∀ x ∈ M, IsC x.set
theorem Mach.shp {M : List Ins} (h : Mach M) : Shp M := shp_of M h.sh
theorem Mach.all {M : List Ins} (h : Mach M) : ∀ x ∈ M, IsC x.set ∧ (x.op = 4 ∨ x.op = 5 → 0 ≤ x.x) ∧ (x.op = 5 → 0 ≤ x.y) := fun x hx => ⟨h.cls x hx, (h.shp.xs x hx).1, (h.shp.xs x hx).2⟩

def spF : Option (Nat × Nat) → Int
  | none => 0
  | some (f, _) => (f : Int)
def spT : Option (Nat × Nat) → Int
  | none => 0
  | some (_, t) => (t : Int)
theorem spanA_eq (o : Option (Nat × Nat)) : spanA o = #[.int .i64 (spF o), .int .i64 (spT o)] := by
  cases o <;> rfl
def FindAll (W : World) (base : Nat) (M : List Ins) (tx : List Int) (f : Int) (s : SO) (e : Ending) (W' : World) : Prop :=
  e = .returned (.tuple #[.agg #[.int .i64 (spF (findI M tx f).1), .int .i64 (spT (findI M tx f).1)], .bool (findI M tx f).1.isSome]) ∧ ∃ s', s'.g = s.g ∧ s'.steps = (findI M tx f).2 ∧ Sob W' base M s' ∧ Up W W' base (SBlk s) (SBlk s')
theorem find_all (W : World) (base : Nat) (M : List Ins) (s : SO) (h : Sob W base M s) (hM : Mach M) (tx : List Int) (a : Option Addr) (n cp : Nat) (ht : TxR W a n cp tx) (f : Int) (hn : tx.length ≤ 4194304) :
    Calls Tryd.prog 11 #[.pointer (some ⟨s.g, 0, none⟩), .slice a n cp, .int .i64 f] W (FindAll W base M tx f s) := by
  by_cases ho : outI tx f
  · have hl := ht.len
    refine (find_no W base M s h a n cp f (by rw [← hl]; exact ho)).mono ?_
    rintro e w' ⟨rfl, h1, h2⟩
    unfold FindAll findI
    rw [if_pos ho]
    exact ⟨rfl, { s with steps := 0 }, rfl, rfl, h1, h2⟩
  · have ho' : ¬ (f < 0 ∨ (tx.length : Int) < f) := ho
    obtain ⟨k, rfl⟩ : ∃ k : Nat, f = (k : Int) := ⟨f.toNat, by omega⟩
    refine (find_yes W base M s h hM.shp.good hM.shp.len hM.all tx a n cp ht k (by omega) hn).mono ?_
    rintro e w' ⟨rfl, s', h1, h2, h3, h4, h5⟩
    unfold FindAll findI
    rw [if_neg ho, Int.toNat_natCast, spanA_eq]
    exact ⟨rfl, s', h1, h3, h4, h5⟩
/-- A list of ends: nil, or a block of its own. -/
def EndV (W : World) (lo : Nat) (v : Value) (l : List Bool) (F : Nat → Prop) : Prop :=
  (v = .slice none 0 0 ∧ l = []) ∨ ∃ g, v = .slice (some ⟨g, 0, none⟩) l.length l.length ∧ lo ≤ g ∧ At W g 4 (cellsB l) ∧ ¬ F g
def EndsAll (W : World) (base : Nat) (M : List Ins) (tx : List Int) (f : Int) (s : SO) (e : Ending) (W' : World) : Prop :=
  ∃ v s', e = .returned v ∧ EndV W' W.heap.size v (endsI M tx f).1 (SBlk s') ∧ s'.g = s.g ∧ s'.steps = (endsI M tx f).2 ∧ Sob W' base M s' ∧ Up W W' base (SBlk s) (SBlk s')
theorem ends_all (W : World) (base : Nat) (M : List Ins) (s : SO) (h : Sob W base M s) (hM : Mach M) (tx : List Int) (a : Option Addr) (n cp : Nat) (ht : TxR W a n cp tx) (f : Int) (hn : tx.length ≤ 4194304) :
    Calls Tryd.prog 13 #[.pointer (some ⟨s.g, 0, none⟩), .slice a n cp, .int .i64 f] W (EndsAll W base M tx f s) := by
  by_cases ho : outI tx f
  · have hl := ht.len
    refine (ends_no W base M s h a n cp f (by rw [← hl]; exact ho)).mono ?_
    rintro e w' ⟨rfl, h1, h2⟩
    unfold EndsAll endsI
    rw [if_pos ho]
    exact ⟨_, { s with steps := 0 }, rfl, .inl ⟨rfl, rfl⟩, rfl, rfl, h1, h2⟩
  · have ho' : ¬ (f < 0 ∨ (tx.length : Int) < f) := ho
    obtain ⟨k, rfl⟩ : ∃ k : Nat, f = (k : Int) := ⟨f.toNat, by omega⟩
    have hk : k ≤ tx.length := by omega
    refine (ends_yes W base M s h hM.shp.good hM.shp.len hM.all tx a n cp ht k hk hn).mono ?_
    rintro e w' ⟨g, s', rfl, h1, h2, h3, h4, h5, h6, h7, h8⟩
    have hl := (ends_spec M tx hM.shp.good k hk).1
    unfold EndsAll endsI
    rw [if_neg ho, Int.toNat_natCast]
    exact ⟨_, s', rfl, .inr ⟨g, by rw [hl], h1, h2, h3⟩, h4, h6, h7, h8⟩
theorem EndV.keep {W W' : World} {lo lo' : Nat} {v : Value} {l : List Bool} {F F' : Nat → Prop} (h : EndV W lo v l F) (hk : ∀ k, k < W.heap.size → lo ≤ k → ¬ F k → W'.heap[k]? = W.heap[k]? ∧ ¬ F' k ∧ lo' ≤ k) : EndV W' lo' v l F' := by
  refine h.imp_right ?_
  rintro ⟨g, h1, h2, h3, h4⟩
  obtain ⟨a, b, c⟩ := hk g h3.lt h2 h4
  exact ⟨g, h1, c, by unfold At; rw [a]; exact h3, b⟩
theorem EndV.below {W W' : World} {lo : Nat} {v : Value} {l : List Bool} {F : Nat → Prop} (h : EndV W lo v l F) (hb : Below W.heap.size W W') : EndV W' lo v l F := h.keep fun k h1 h2 h3 => ⟨hb.block k h1, h3, h2⟩
/-- Such a list is read. -/
theorem EndV.bsb {W : World} {lo : Nat} {v : Value} {l : List Bool} {F : Nat → Prop} (h : EndV W lo v l F) (hl : l.length ≤ 9223372036854775807) : BSb W v l := by
  rcases h with ⟨rfl, rfl⟩ | ⟨g, rfl, _, h3, _⟩
  · exact ⟨none, 0, rfl, by simp, .inl rfl⟩
  · refine ⟨_, _, rfl, hl, .inr ⟨g, 0, rfl, fun i hi => ?_⟩⟩
    rw [Nat.zero_add, h3.cell, cellsB, List.getElem?_map, List.getElem?_eq_getElem hi]
    rfl
theorem BSb.below {w w' : World} {v : Value} {l : List Bool} (h : BSb w v l) (hb : Below w.heap.size w w') : BSb w' v l := by
  obtain ⟨a, c, rfl, h2, h3⟩ := h
  refine ⟨a, c, rfl, h2, h3.imp_right ?_⟩
  rintro ⟨b, o, rfl, hc⟩
  refine ⟨b, o, rfl, fun i hi => ?_⟩
  rw [hb.cell (World.block_lt_of_cell? w _ (hc i hi))]
  exact hc i hi
theorem BSb.shape {w : World} {v : Value} {l : List Bool} (h : BSb w v l) : ∃ a c, v = .slice a l.length c := by
  obtain ⟨a, c, rfl, _⟩ := h
  exact ⟨a, c, rfl⟩
theorem BSb.cell {w : World} {a : Option Addr} {n c : Nat} {l : List Bool} (h : BSb w (.slice a n c) l) (i : Nat) (hi : i < l.length) : ∃ b o, a = some ⟨b, o, none⟩ ∧ w.cell? ⟨b, o + i, none⟩ = some (.bool (l[i]?.getD false)) := by
  obtain ⟨a', c', he, h2, h3⟩ := h
  simp only [Value.slice.injEq] at he
  obtain ⟨rfl, _, rfl⟩ := he
  rcases h3 with rfl | ⟨b, o, rfl, hc⟩
  · simp at hi
  · exact ⟨b, o, rfl, hc i hi⟩
theorem endsI_len (M : List Ins) (hM : Mach M) (tx : List Int) (f : Int) (ho : ¬ outI tx f) : (endsI M tx f).1.length = tx.length + 1 := by
  have ho' : ¬ (f < 0 ∨ (tx.length : Int) < f) := ho
  unfold endsI
  rw [if_neg ho]
  exact (ends_spec M tx hM.shp.good f.toNat (by omega)).1
end Go.Proofs.YtfmcjmkdlldlhaaDoor
