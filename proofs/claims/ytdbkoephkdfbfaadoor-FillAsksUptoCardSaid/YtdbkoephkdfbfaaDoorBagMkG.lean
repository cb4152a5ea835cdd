/-
  A bag into which lists of marks are gathered.
-/
import Derived.Test.YtdbkoephkdfbfaaDoorBagMkA
import Derived.Test.YtdbkoephkdfbfaaDoorBagP
import Derived.Test.YtdbkoephkdfbfaaDoorOwnM
namespace Go.Proofs.YtdbkoephkdfbfaaDoor
open Go.RowKit

structure GM (W w : World) (bg m : Nat) (fs : List Value) (bv : Value) (vs : Nat → Value) (len : Nat → Nat) (C : Nat → List Value) : Prop where
  bag : BagAt w bg fs
  flen : fs.length = 19
  z : ∀ i, i < 19 → i ≠ 4 → fs[i]? = some (.slice none 0 0)
  kd : Kd w W.heap.size 4 72 82 2 70368744175616 m fs bv vs len C
  lo : W.heap.size ≤ bg
  bel : Below W.heap.size W w
section
variable {W w w' : World} {bg m : Nat} {fs : List Value} {bv : Value} {vs : Nat → Value} {len : Nat → Nat} {C : Nat → List Value} {l : List Mk}
theorem GM.start (hB : Below W.heap.size W w) : GM W (w.alloc bagZero) w.heap.size 0 heads0 (.slice none 0 0) (fun _ => undef) (fun _ => 0) (fun _ => []) :=
  ⟨BagAt.new0 w, heads0_len, fun i hi _ => heads0_at i hi, Kd.none _ _ _ _ _ _ _ _ (heads0_at 4 (by omega)) _ _ _, hB.size, hB.alloc hB.size _⟩
theorem GM.add (h : GM W w bg m fs bv vs len C) (hm : m < 400) {ua : Option Addr} {un uc : Nat} (hv : OwnM w W.heap.size (.slice ua un uc) l) (hn : l.length ≤ 70368744175616) (hap : ∀ j, j < m → Apart (vs j) (.slice ua un uc)) :
    Calls Tryd.prog 45 #[.pointer (some ⟨bg, 0, none⟩), .slice ua un uc] w fun e w' => e = .returned undef ∧ KeepT 82 w w' ∧ ∃ fs' bv', GM W w' bg (m + 1) fs' bv' (snoc vs m (.slice ua un uc)) (snoc len m l.length) (snoc C m (mkCells l)) := by
  refine (addMarks_any w W.heap.size bg m fs bv (firstN vs m) ua un uc h.bag h.kd.hd h.kd.own hm h.bel.size).mono ?_
  rintro e w' ⟨rfl, bv', hA⟩
  refine ⟨rfl, hA.keep _ neML neMG, _, bv', hA.bag, by rw [List.length_set, h.flen], fun i hi hne => ?_, h.kd.add hA (by rw [h.flen]; omega) neML neMG hv hn hap, h.lo, hA.bel _ _ h.bel (Nat.le_refl _) h.lo⟩
  rw [List.getElem?_set_ne (fun e => hne e.symm)]
  exact h.z i hi hne
theorem GM.apart (h : GM W w bg m fs bv vs len C) (hm : m ≤ 400) :
    Calls Tryd.prog 26 #[.pointer (some ⟨bg, 0, none⟩)] w fun e w' => e = .returned (.bool true) ∧ Below W.heap.size W w' :=
  (apart_marks (fun _ => False) w W.heap.size bg m fs bv vs len C h.bag h.z h.kd hm h.bel.size (fun _ h => h.elim) (fun _ _ _ h => h.elim)).mono fun _ _ ⟨e, f⟩ => ⟨e, f.bel _ _ h.bel (Nat.le_refl _)⟩
end
end Go.Proofs.YtdbkoephkdfbfaaDoor
