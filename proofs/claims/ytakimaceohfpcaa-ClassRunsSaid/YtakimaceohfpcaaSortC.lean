/-
  Lists of classes that a call owns; such a list sorted.
-/
import Derived.Test.YtakimaceohfpcaaCmp
import Derived.Laws.OwnMore
namespace Go.Proofs.Ytakimaceohfpcaa
open Go.Shelf Go.RowKit Go.Lib Go.Sort

def cellsC (cs : List Cl) : List Value := cs.flatMap encC
theorem encC_len (x : Cl) : (encC x).length = 4 := by unfold encC; rw [List.length_map]; exact x.2.1
theorem cellsC_len (cs : List Cl) : (cellsC cs).length = cs.length * 4 := by
  induction cs with
  | nil => rfl
  | cons x t ih => unfold cellsC at ih ⊢; rw [List.flatMap_cons, List.length_append, ih, encC_len, List.length_cons]; omega
theorem cellsC_append (a b : List Cl) : cellsC (a ++ b) = cellsC a ++ cellsC b := by simp [cellsC]
theorem cellsC_get (cs : List Cl) : ∀ (i c : Nat) (_ : c < 4), (cellsC cs)[i * 4 + c]? = (cs[i]?).bind fun x => (encC x)[c]? := by
  induction cs with
  | nil => intro i c _; simp [cellsC]
  | cons x t ih =>
    intro i c hc
    have e : cellsC (x :: t) = encC x ++ cellsC t := by simp [cellsC]
    rw [e]
    match i with
    | 0 => rw [List.getElem?_append_left (by rw [encC_len]; omega)]; simp
    | i + 1 =>
      rw [List.getElem?_append_right (by rw [encC_len]; omega), encC_len, show (i + 1) * 4 + c - 4 = i * 4 + c by omega, ih i c hc]
      simp
/-- The value v owns the classes cs, in blocks from base on. -/
def OwnCs (w : World) (base : Nat) (v : Value) (cs : List Cl) : Prop := w.ownsRow base 24 4 v cs.length (cellsC cs)

theorem flatK_list (d : Array Cl) : (flatK encC 4 d).toList = cellsC d.toList := by
  apply List.ext_getElem (by simp [cellsC_len])
  intro t h1 h2
  have ht : t < d.size * 4 := by simpa using h1
  have hq : t / 4 < d.size := by omega
  have e := cellsC_get d.toList (t / 4) (t % 4) (by omega)
  rw [show t / 4 * 4 + t % 4 = t by omega, List.getElem?_eq_getElem h2] at e
  have hl := encC_len d[t / 4]
  have e2 : (d.toList[t / 4]?).bind (fun x => (encC x)[t % 4]?) = some (encC d[t / 4])[t % 4] := by
    rw [List.getElem?_eq_getElem (by simpa using hq)]
    simp [show t % 4 < (encC d[t / 4]).length by omega]
  rw [e2] at e
  have e3 := get_flatK encC 4 d t ht
  rw [getElem!_pos (flatK encC 4 d) t (by simpa using ht)] at e3
  have e4 : (flatK encC 4 d).toList[t] = (flatK encC 4 d)[t]'(by simpa using ht) := by simp
  rw [e4, e3, getElem!_pos d _ hq, getElem!_pos (encC d[t / 4]) _ (by omega)]
  exact (Option.some.inj e).symm

theorem OwnCs.holds {w : World} {base g cap : Nat} {cs : List Cl} (h : OwnCs w base (.slice (some ⟨g, 0, none⟩) cs.length cap) cs) : HoldsK encC 4 w g 0 cs.toArray := by
  intro j hj
  rw [size_flatK] at hj
  have hj2 : j < cs.length * 4 := by simpa using hj
  have hc := h.cellAt j hj2
  have hf := h.frozenAt j
  rw [Nat.zero_add]
  refine ⟨?_, hf⟩
  rw [hc]
  have := flatK_list cs.toArray
  rw [show cs.toArray.toList = cs by simp] at this
  rw [← this, getElem!_pos _ j (by simpa using hj2)]
  simp

theorem putRow_cells (w : World) (g : Nat) (F cur : Array Value) (e : TypeId) (h : w.heap[g]? = some (.cells cur e (0, 0))) (hs : F.size ≤ cur.size) :
    ∃ cur', (putRow id w g 0 F).heap[g]? = some (.cells cur' e (0, 0)) ∧ cur'.size = cur.size ∧ cur'.toList.take F.size = F.toList := by
  refine ⟨putCells id 0 F cur, ?_, by simp [putCells], ?_⟩
  · unfold putRow mapBlock
    show (w.heap.modify g (onCells (putCells id 0 F)))[g]? = _
    rw [Array.getElem?_modify, if_pos rfl, h]
    rfl
  · apply List.ext_getElem
    · simp [putCells]; omega
    · intro i h1 h2
      have hi : i < F.size := by simpa using h2
      simp [putCells, hi]
theorem putRow_other (w : World) (g k : Nat) (F : Array Value) (h : k ≠ g) : (putRow id w g 0 F).heap[k]? = w.heap[k]? := by
  unfold putRow mapBlock
  show (w.heap.modify g _)[k]? = _
  rw [Array.getElem?_modify, if_neg (Ne.symm h)]

/-- What the sort leaves of an owned list of classes. -/
theorem sort_world {w : World} {base g cap n : Nat} {cs : List Cl} {d' : Array Cl} {os : Array Obj} (h : OwnCs w base (.slice (some ⟨g, 0, none⟩) cs.length cap) cs) (hs : d'.size = cs.length) :
    OwnCs (sortWorldK encC 4 w g 0 n d' os) base (.slice (some ⟨g, 0, none⟩) cs.length cap) d'.toList ∧ Go.RowKit.Below base w (sortWorldK encC 4 w g 0 n d' os) := by
  rcases h.2 with ⟨h', _⟩ | ⟨g', cap', cur, he, hb, hg, hnc, hcm, hcs, htake⟩
  · simp at h'
  · simp only [Value.slice.injEq, Option.some.injEq, Addr.mk.injEq, and_true, true_and] at he
    obtain ⟨rfl, rfl⟩ := he
    have hlt := (Array.getElem?_eq_some_iff.1 hg).1
    obtain ⟨cur', h1, h2, h3⟩ := putRow_cells (Sort.ahead w n) g (flatK encC 4 d') cur _ hg (by rw [size_flatK, hs]; omega)
    have hsz : (putRow id (Sort.ahead w n) g 0 (flatK encC 4 d')).heap.size = w.heap.size := by rw [size_putRow]; rfl
    refine ⟨⟨by rw [cellsC_len], .inr ⟨g, cap, cur', by simp [hs], hb, ?_, by simp [hs]; omega, hcm, by omega, ?_⟩⟩, ?_⟩
    · unfold sortWorldK grow putRowK
      simp only
      rw [Array.getElem?_append_left (by rw [hsz]; exact hlt)]
      exact h1
    · rw [size_flatK] at h3
      rw [← flatK_list, show d'.toList.length = d'.size by simp, h3]
    · refine ⟨rfl, rfl, rfl, ?_, fun k hk => ?_⟩
      · unfold sortWorldK grow putRowK
        simp only [Array.size_append]
        rw [hsz]
        omega
      · unfold sortWorldK grow putRowK
        simp only
        rw [Array.getElem?_append_left (by rw [hsz]; omega), putRow_other _ _ _ _ (by omega)]
        rfl

/-- The classes rise by their least bytes. -/
def RiseC (cs : List Cl) : Prop := cs.Pairwise fun a b => leastL a.1 ≤ leastL b.1
def SortPost (w : World) (base g cap : Nat) (cs : List Cl) (e : Ending) (w' : World) : Prop :=
  e = .returned (.tuple #[]) ∧ ∃ cs' : List Cl, cs'.Perm cs ∧ RiseC cs' ∧ OwnCs w' base (.slice (some ⟨g, 0, none⟩) cs.length cap) cs' ∧ Go.RowKit.Below base w w'

theorem sortOwn (w : World) (base g cap : Nat) (cs : List Cl) (h : OwnCs w base (.slice (some ⟨g, 0, none⟩) cs.length cap) cs) (hl : cs.length < 4611686018427387904) :
    Calls Try.prog 43 #[.slice (some ⟨g, 0, none⟩) cs.length cap, .func (.func 44) #[] #[]] w (SortPost w base g cap cs) := by
  have hlt := (World.ownsRow.lt h g rfl).2
  refine (sortC g 0 cap cs.toArray w h.holds hlt (by simpa using hl)).mono ?_
  rintro e w' ⟨he, d', n, os, ⟨hs, -, hp⟩, ho, rfl⟩
  have hs : d'.size = cs.length := by simpa using hs
  refine ⟨he, d'.toList, ?_, ?_, (sort_world h hs).1, (sort_world h hs).2⟩
  · have h1 : (d'.extract 0 cs.toArray.size).toList = d'.toList := by simp [← hs]
    have h2 : (cs.toArray.extract 0 cs.toArray.size).toList = cs := by simp
    rw [h1, h2] at hp
    exact hp
  · refine List.pairwise_iff_getElem.2 fun i j hi hj hij => ?_
    have := ho i j (Nat.zero_le _) hij (by simpa [hs] using hj)
    rw [ltC] at this
    rw [getElem!_pos d' i (by simpa using hi), getElem!_pos d' j (by simpa using hj)] at this
    simp only [decide_eq_false_iff_not, Nat.not_lt] at this
    simpa using this
end Go.Proofs.Ytakimaceohfpcaa
