/-
  A bag into which lists of texts are gathered.
-/
import Derived.Test.YtgepjjpcokbpjaaDoorBagTxA
import Derived.Test.YtgepjjpcokbpjaaDoorBagP
namespace Go.Proofs.YtgepjjpcokbpjaaDoor
open Go.RowKit

structure GT (W w : World) (bg m : Nat) (fs : List Value) (bv : Value) (vs : Nat → Value) (len : Nat → Nat) (C : Nat → List Value) : Prop where
  bag : BagAt w bg fs
  flen : fs.length = 19
  z : ∀ i, i < 19 → i ≠ 3 → fs[i]? = some (.slice none 0 0)
  kd : Kd w W.heap.size 3 22 9 1 8796093021952 m fs bv vs len C
  lo : W.heap.size ≤ bg
  bel : Below W.heap.size W w
section
variable {W w w' : World} {bg m : Nat} {fs : List Value} {bv : Value} {vs : Nat → Value} {len : Nat → Nat} {C : Nat → List Value} {l : List Str}
theorem GT.start (hB : Below W.heap.size W w) : GT W (w.alloc bagZero) w.heap.size 0 heads0 (.slice none 0 0) (fun _ => undef) (fun _ => 0) (fun _ => []) :=
  ⟨BagAt.new0 w, heads0_len, fun i hi _ => heads0_at i hi, Kd.none _ _ _ _ _ _ _ _ (heads0_at 3 (by omega)) _ _ _, hB.size, hB.alloc hB.size _⟩
theorem GT.add (h : GT W w bg m fs bv vs len C) (hm : m < 400) {ua : Option Addr} {un uc : Nat} (hv : OwnT w W.heap.size (.slice ua un uc) l) (hn : l.length ≤ 8796093021952) (hap : ∀ j, j < m → Apart (vs j) (.slice ua un uc)) :
    Calls Tryd.prog 21 #[.pointer (some ⟨bg, 0, none⟩), .slice ua un uc] w fun e w' => e = .returned undef ∧ KeepT 9 w w' ∧ ∃ fs' bv', GT W w' bg (m + 1) fs' bv' (snoc vs m (.slice ua un uc)) (snoc len m l.length) (snoc C m (l.map Value.string)) := by
  refine (addTexts_any w W.heap.size bg m fs bv (firstN vs m) ua un uc h.bag h.kd.hd h.kd.own hm h.bel.size).mono ?_
  rintro e w' ⟨rfl, bv', hA⟩
  refine ⟨rfl, hA.keep _ neTL neTG, _, bv', hA.bag, by rw [List.length_set, h.flen], fun i hi hne => ?_, h.kd.add hA (by rw [h.flen]; omega) neTL neTG hv hn hap, h.lo, hA.bel _ _ h.bel (Nat.le_refl _) h.lo⟩
  rw [List.getElem?_set_ne (fun e => hne e.symm)]
  exact h.z i hi hne
theorem GT.apart (h : GT W w bg m fs bv vs len C) (hm : m ≤ 400) (hT : TabW W) :
    Calls Tryd.prog 16 #[.pointer (some ⟨bg, 0, none⟩)] w fun e w' => e = .returned (.bool true) ∧ Below W.heap.size W w' :=
  (apart_texts (fun _ => False) w W.heap.size bg m fs bv vs len C h.bag h.z h.kd hm h.bel.size (fun _ hb => hT.below (h.bel.trans hb)) (fun _ h => h.elim) (fun _ _ _ h => h.elim)).mono fun _ _ ⟨e, f⟩ => ⟨e, f.bel _ _ h.bel (Nat.le_refl _)⟩
end
end Go.Proofs.YtgepjjpcokbpjaaDoor
