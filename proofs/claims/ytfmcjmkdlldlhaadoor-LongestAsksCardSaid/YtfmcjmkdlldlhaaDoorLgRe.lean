/-
  galleyref01.Has, galleyref08.reach: to which instructions those of a place lead there.
-/
import Derived.Test.YtfmcjmkdlldlhaaDoorLgR
import Derived.Test.YtfmcjmkdlldlhaaDoorLgE
import Derived.Test.YtfmcjmkdlldlhaaDoorLgRn
namespace Go.Proofs.YtfmcjmkdlldlhaaDoor
open Go.RowKit
attribute [local go_sem] Oper.semAt_some

set_option maxHeartbeats 400000 in
theorem refHas8_any (w : World) (c : List Nat) (hc : IsC c) (x : Nat) (hx : x < 256) :
    Calls Tryd.prog 34 #[.agg (row64 c), .int .u8 (x : Int)] w fun e w' => e = .returned (.bool (hasL c x)) ∧ Below w.heap.size w w' := by
  have hg := row64_get c (x / 64) (by rw [hc.1]; omega)
  have hs := row64_size c
  rw [hc.1] at hs
  go_enter Tryd.func34, Tryd.ntmps34
  go_wp2
  go_ret
  rw [bit_is _ _ (hc.2 _)]
  exact ⟨rfl, (Below.refl _ w).alloc (Nat.le_refl _) _⟩

def OB (v : Value) (k : Nat) : Prop := v.ownBlock = some k
theorem Up.app {w w' : World} {base : Nat} {v v' : Value} (h : AppPost w w' base v v') : Up w w' base (OB v) (OB v') :=
  ⟨fun k hk hn => h.block k hk fun e => hn e, h.new, h.bel, h.size⟩
/-- A cell of a fresh block. -/
theorem Up.fresh {W w : World} {base g i : Nat} {x : Value} {F F' : Nat → Prop} (h : Up W w base F F') (hg : W.heap.size ≤ g) (hb : base ≤ W.heap.size) : Up W (w.setCell ⟨g, i, none⟩ x) base F F' :=
  ⟨fun k hk hn => (heap_setCell_other w ⟨g, i, none⟩ k x (fun e => by simp only at e; omega)).trans (h.keep k hk hn), h.new, fun B w0 h1 hB => (h.bel B w0 h1 hB).setCell (by show B ≤ g; omega) x, by simpa using h.size⟩
/-- Loop 2 of reach, ahead of the k-th of the list. -/
structure RI (W wr : World) (lo b2 : Nat) (mv : Value) (M : List Ins) (n p : Nat) (l0 : List Nat) (v0 : Value) (g k : Nat) (v : Value) (l : List Nat) (B : List Bool) : Prop where
  mo : wr.ownsRow b2 TI 7 mv M.length (cellsI M)
  li : wr.ownsRow lo 3 1 v l.length (cellsN l)
  mt : At wr g 4 (cellsB B)
  ml : B.length = M.length
  up : Up W wr lo (OB v0) (OB v)
  inl : ∀ x, B[x]?.getD false = true ↔ x ∈ l
  src : ∀ x ∈ l, ∃ j ∈ l0, EpsR M n p j x
  sub : ∀ x ∈ l0, x ∈ l
  cls : ∀ q, q < k → ∀ y ∈ pushes M n p (l[q]?.getD 0), y ∈ l
  cnt : l.length + B.countP (fun b => !b) ≤ l0.length + M.length
  kl : k ≤ l.length
section
variable {W wr w2 : World} {lo b2 : Nat} {mv : Value} {M : List Ins} {n p : Nat} {l0 : List Nat} {v0 : Value} {g k : Nat} {v v2 : Value} {l : List Nat} {B : List Bool}
theorem RI.lt (h : RI W wr lo b2 mv M n p l0 v0 g k v l B) {x : Nat} (hx : x ∈ l) : x < M.length := by
  have := (h.inl x).2 hx
  by_cases hl : x < M.length
  · exact hl
  · rw [List.getElem?_eq_none (by rw [h.ml]; omega)] at this
    cases this
theorem countP_set (B : List Bool) (y : Nat) (hy : y < B.length) (hf : B[y]?.getD false = false) : (B.set y true).countP (fun b => !b) + 1 = B.countP (fun b => !b) := by
  induction B generalizing y with
  | nil => simp at hy
  | cons b B ih =>
    cases y with
    | zero =>
      simp only [List.getElem?_cons_zero, Option.getD_some] at hf
      subst hf
      simp
    | succ y =>
      have := ih y (by simpa using hy) (by simpa using hf)
      rw [List.set_cons_succ, List.countP_cons, List.countP_cons]
      omega
/-- One more is come to. -/
theorem RI.add (h : RI W wr lo b2 mv M n p l0 v0 g k v l B) (hW : W.heap.size ≤ g) (hlo : lo ≤ W.heap.size) (y : Nat) (hym : y < M.length) (hf : B[y]?.getD false = false) (hk : k < l.length) (hp : y ∈ pushes M n p (l[k]?.getD 0))
    (ho : w2.ownsRow lo 3 1 v2 (l.length + 1) (cellsN l ++ cellsN [y])) (ha : AppPost (wr.setCell ⟨g, y, none⟩ (.bool true)) w2 lo v v2) : RI W w2 lo b2 mv M n p l0 v0 g k v2 (l ++ [y]) (B.set y true) := by
  have hA := h.mt.set y (.bool true)
  rw [cellsB_set] at hA
  have hLi : (wr.setCell ⟨g, y, none⟩ (.bool true)).ownsRow lo 3 1 v l.length (cellsN l) := own_set_at h.mt h.li (by decide)
  have hMo : (wr.setCell ⟨g, y, none⟩ (.bool true)).ownsRow b2 TI 7 mv M.length (cellsI M) := own_set_at h.mt h.mo (by decide)
  have hylt : y < B.length := by rw [h.ml]; exact hym
  refine ⟨(app_keepT hLi ha (by decide)).own hMo, ?_, (app_keepT hLi ha (by decide) _ _ hA).trans hA, by rw [List.length_set, h.ml], (h.up.fresh hW hlo).trans (Up.app ha), fun x => ?_, fun x hx => ?_, fun x hx => List.mem_append_left _ (h.sub x hx), fun q hq z hz => ?_, ?_, by rw [List.length_append]; have := h.kl; omega⟩
  · rw [List.length_append, cellsN_append]
    exact ho
  · rw [List.getElem?_set, List.mem_append, List.mem_singleton, ← h.inl x]
    by_cases e : y = x
    · subst e
      rw [if_pos rfl, if_pos hylt]
      simp
    · rw [if_neg e]
      exact ⟨.inl, fun h => h.elim id fun h => absurd h.symm e⟩
  · rcases List.mem_append.1 hx with hx | hx
    · exact h.src x hx
    · simp only [List.mem_singleton] at hx
      subst hx
      have hm : l[k]?.getD 0 ∈ l := by rw [List.getElem?_eq_getElem hk]; exact List.getElem_mem hk
      obtain ⟨j, h1, h2⟩ := h.src _ hm
      exact ⟨j, h1, .step h2 hp⟩
  · rw [List.getElem?_append_left (by omega)] at hz
    exact List.mem_append_left _ (h.cls q hq z hz)
  · have := countP_set B y hylt hf
    have := h.cnt
    rw [List.length_append, List.length_singleton]
    omega
theorem RI.next (h : RI W wr lo b2 mv M n p l0 v0 g k v l B) (hk : k < l.length) (hc : ∀ y ∈ pushes M n p (l[k]?.getD 0), y ∈ l) : RI W wr lo b2 mv M n p l0 v0 g (k + 1) v l B :=
  { h with
    cls := fun q hq y hy => by
      rcases Nat.lt_succ_iff_lt_or_eq.1 hq with h1 | rfl
      · exact h.cls q h1 y hy
      · exact hc y hy
    kl := hk }
theorem RI.drew (h : RI W wr lo b2 mv M n p l0 v0 g k v l B) (hlo : lo ≤ W.heap.size) (q : Nat) : RI W (wr.drewN q) lo b2 mv M n p l0 v0 g k v l B :=
  have hb := below_drewN (Below.refl wr.heap.size wr) q
  { h with
    mo := own_blk h.mo fun k hk => hb.block k (World.ownsRow.lt h.mo k hk).2
    li := own_blk h.li fun k hk => hb.block k (World.ownsRow.lt h.li k hk).2
    mt := h.mt.below hb
    up := h.up.trans (Up.below _ hb (Nat.le_trans hlo h.up.size)) }
/-- The end of reach. -/
theorem RI.fin (h : RI W wr lo b2 mv M n p l0 v0 g l.length v l B) (i : Nat) : i ∈ l ↔ ∃ j ∈ l0, EpsR M n p j i := by
  constructor
  · exact h.src i
  · rintro ⟨j, hj, he⟩
    induction he with
    | refl => exact h.sub j hj
    | step _ hp ih =>
      obtain ⟨q, hq⟩ := List.getElem?_of_mem ih
      have hql := (List.getElem?_eq_some_iff.1 hq).1
      exact h.cls q hql _ (by rw [hq]; exact hp)
end
end Go.Proofs.YtfmcjmkdlldlhaaDoor
