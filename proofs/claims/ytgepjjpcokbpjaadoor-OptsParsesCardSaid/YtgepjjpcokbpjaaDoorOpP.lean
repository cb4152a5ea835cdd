/-
  OptsParses: its walk.
-/
import Derived.Test.YtgepjjpcokbpjaaDoorRefPr
import Derived.Test.YtgepjjpcokbpjaaDoorBagOp
import Derived.Test.YtgepjjpcokbpjaaDoorOptsA
import Derived.Test.YtgepjjpcokbpjaaDoorLongT
import Derived.Test.YtgepjjpcokbpjaaDoorOptW
import Derived.Test.YtgepjjpcokbpjaaDoorParL
namespace Go.Proofs.YtgepjjpcokbpjaaDoor
open Go.RowKit

theorem apart_ownP {w : World} {base s n : Nat} {e : TypeId} {u v : Value} {xs : List Value} (h : w.ownsRow base e s v n xs) (hu : ∀ k, u.ownBlock = some k → k < base) : Apart u v := fun k h1 h2 => by
  have := (World.ownsRow.lt h k h2).1
  have := hu k h1
  omega
theorem own_topP {w : World} {base s n : Nat} {e : TypeId} {v : Value} {xs : List Value} (h : w.ownsRow base e s v n xs) : ∀ k, v.ownBlock = some k → k < w.heap.size := fun k hk => (World.ownsRow.lt h k hk).2
/-- Options in a box of the law. -/
structure BO (W : World) (lo b : Nat) (o : Opt) (pv fv : Value) : Prop where
  box : W.heap[b]? = some (.cells (fullO o pv fv) TOpt (0, 0))
  p : OwnPt W lo pv o.parts
  f : OwnT W lo fv o.files
  ge : lo ≤ b
theorem BO.below {W W' : World} {lo b : Nat} {o : Opt} {pv fv : Value} (h : BO W lo b o pv fv) (hb : Below W.heap.size W W') : BO W' lo b o pv fv :=
  ⟨(hb.block _ (Array.getElem?_eq_some_iff.1 h.box).1).trans h.box, own_belowT h.p hb, own_belowT h.f hb, h.ge⟩
theorem BO.lt {W : World} {lo b : Nat} {o : Opt} {pv fv : Value} (h : BO W lo b o pv fv) : b < W.heap.size := (Array.getElem?_eq_some_iff.1 h.box).1
/-- A call's options, laid in a fresh box. -/
theorem BO.lay {w W : World} {o : Opt} {ap af : Option Addr} {np cp nf cf : Nat} {lo : Nat} (hp : OwnPt W w.heap.size (.slice ap np cp) o.parts) (hf : OwnT W w.heap.size (.slice af nf cf) o.files) (hlo : lo ≤ w.heap.size) (hsz : w.heap.size ≤ W.heap.size) :
    BO ((W.alloc (.cells zeroO TOpt)).setRow W.heap.size (fullO o (.slice ap np cp) (.slice af nf cf))) lo W.heap.size o (.slice ap np cp) (.slice af nf cf) ∧ Below W.heap.size W ((W.alloc (.cells zeroO TOpt)).setRow W.heap.size (fullO o (.slice ap np cp) (.slice af nf cf))) := by
  have hb := below_setRow ((Below.refl W.heap.size W).alloc (Nat.le_refl _) (.cells zeroO TOpt)) (Nat.le_refl _) (fullO o (.slice ap np cp) (.slice af nf cf))
  exact ⟨⟨setRow_heap _ _ _ _ _ _ (heap_alloc_new W _), own_mono (own_belowT hp hb) hlo, own_mono (own_belowT hf hb) hlo, by omega⟩, hb⟩
/-- What the law holds. -/
structure LS (w W : World) (g : Nat) (m : List Str) (b5 : Nat) (o5 : Opt) (p5 f5 : Value) (b8 : Nat) (o8 : Opt) (p8 f8 : Value) (b11 : Nat) (o11 : Opt) (p11 f11 : Value) : Prop where
  wide : ArrT W g m
  h5 : BO W w.heap.size b5 o5 p5 f5
  h8 : BO W w.heap.size b8 o8 p8 f8
  h11 : BO W w.heap.size b11 o11 p11 f11
  bel : Below w.heap.size w W
theorem LS.store {w W : World} {g : Nat} {m : List Str} {b5 : Nat} {o5 : Opt} {p5 f5 : Value} {b8 : Nat} {o8 : Opt} {p8 f8 : Value} {b11 : Nat} {o11 : Opt} {p11 f11 : Value} (h : LS w W g m b5 o5 p5 f5 b8 o8 p8 f8 b11 o11 p11 f11)
    (hn : w.heap.size ≤ g ∧ (b5 ≠ g ∧ b8 ≠ g ∧ b11 ≠ g) ∧ (p5.ownBlock ≠ some g ∧ f5.ownBlock ≠ some g) ∧ (p8.ownBlock ≠ some g ∧ f8.ownBlock ≠ some g) ∧ (p11.ownBlock ≠ some g ∧ f11.ownBlock ≠ some g)) (i : Nat) (x : Str) : LS w (W.setCell ⟨g, i, none⟩ (.string x)) g (m.set i x) b5 o5 p5 f5 b8 o8 p8 f8 b11 o11 p11 f11 :=
  ⟨h.wide.set i x, ⟨(heap_setCell_other W ⟨g, i, none⟩ b5 _ (by simpa using hn.2.1.1)).trans h.h5.box, ownsRow_setCell_other h.h5.p hn.2.2.1.1 _, ownsRow_setCell_other h.h5.f hn.2.2.1.2 _, h.h5.ge⟩,
    ⟨(heap_setCell_other W ⟨g, i, none⟩ b8 _ (by simpa using hn.2.1.2.1)).trans h.h8.box, ownsRow_setCell_other h.h8.p hn.2.2.2.1.1 _, ownsRow_setCell_other h.h8.f hn.2.2.2.1.2 _, h.h8.ge⟩,
    ⟨(heap_setCell_other W ⟨g, i, none⟩ b11 _ (by simpa using hn.2.1.2.2)).trans h.h11.box, ownsRow_setCell_other h.h11.p hn.2.2.2.2.1 _, ownsRow_setCell_other h.h11.f hn.2.2.2.2.2 _, h.h11.ge⟩, h.bel.setCell (p := ⟨g, i, none⟩) hn.1 _⟩
theorem LS.below {w W W' : World} {g : Nat} {m : List Str} {b5 : Nat} {o5 : Opt} {p5 f5 : Value} {b8 : Nat} {o8 : Opt} {p8 f8 : Value} {b11 : Nat} {o11 : Opt} {p11 f11 : Value} (h : LS w W g m b5 o5 p5 f5 b8 o8 p8 f8 b11 o11 p11 f11) (hb : Below W.heap.size W W') : LS w W' g m b5 o5 p5 f5 b8 o8 p8 f8 b11 o11 p11 f11 :=
  ⟨h.wide.below hb, h.h5.below hb, h.h8.below hb, h.h11.below hb, h.bel.trans (hb.mono h.bel.size)⟩
set_option maxHeartbeats 4000000 in
set_option maxRecDepth 100000 in
theorem parsesLaw_any (w : World) (hw : TabW w) (a : Option Addr) (n c : Nat) (args : List Str) (hb : TS w (.slice a n c) args) (hs : ∀ s ∈ args, s.size ≤ 140737488351232) :
    Calls Tryd.prog 3 #[.slice a n c] w fun r w' => r = .returned (.bool true) ∧ Below w.heap.size w w' := by
  obtain ⟨hl, hn, -, -⟩ := hb.len
  have HL := Lib.hid hl
  have HTW := Lib.hid hw
  have HTS := Lib.hid hb
  have HSZ := Lib.hid hs
  clear hl hw hb hs
  go_enter Tryd.func3, Tryd.ntmps3
  have HWK := Lib.hid (works28_any w)
  go_wp2_with (go_at_call 6; refine HWK.out.mono ?_)
  rintro r w1 ⟨rfl, b1⟩
  have HB1 := Lib.hid b1
  clear b1 HWK
  have HLG := Lib.hid (longT_any w1 a n c args (HTS.out.below HB1.out) HSZ.out)
  go_wp2_with (go_at_call 7; refine HLG.out.mono ?_)
  rintro r w2 ⟨bl, rfl, rfl, hbl⟩
  have HBL := Lib.hid hbl
  clear hbl HLG
  cases bl with
  | true =>
    go_wp2_with fail
    go_ret
    exact ⟨rfl, HB1.out⟩
  | false =>
    have hn2 : n ≤ 67108864 := (HBL.out rfl).1
    have HS2 : Hid (∀ s ∈ args, s.size ≤ 9223372036854775807) := Lib.hid fun s h => by have := (HBL.out rfl).2 s h; omega
    clear HBL
    have HWT := Lib.hid (wideT_any w1 (HTW.out.below HB1.out) a n c args (HTS.out.below HB1.out))
    go_upto_region 4 with fail
    go_wp2_with (go_at_call 8; refine HWT.out.mono ?_)
    rintro r w3 ⟨rfl, hA, b3⟩
    have HA3 := Lib.hid hA
    have HG3 : Hid (w1.heap.size < w3.heap.size) := Lib.hid hA.lt
    have HB3 := Lib.hid (HB1.out.trans (b3.mono HB1.out.size))
    clear hA b3 HWT
    obtain ⟨g, hg⟩ : ∃ g, w1.heap.size = g := ⟨_, rfl⟩
    have HGE : Hid (w.heap.size ≤ g) := Lib.hid (by rw [← hg]; exact HB1.out.size)
    rw [hg] at HA3 HG3 ⊢
    clear hg
    have HT3 : Hid (TS w3 (.slice (some ⟨g, 0, none⟩) n (n + 64)) args) := Lib.hid (by
      have := HA3.out.ts (m := marksT args.length) (by rw [HL.out]; omega) (n + 64) (by rw [HL.out]; omega)
      rw [HL.out] at this
      exact this)
    obtain ⟨R, hR⟩ : ∃ R, parF args opt0 = R := ⟨_, rfl⟩
    have HPA : Hid (∀ W, Below w3.heap.size w3 W → Calls Tryd.prog 9 #[.slice (some ⟨g, 0, none⟩) n (n + 64)] W (ParseOPost W R)) := Lib.hid fun W hb => by
      rw [← hR]
      exact parseO_any W _ n _ args (HT3.out.below hb) (by omega) HS2.out
    have HRP : Hid (∀ W, Below w3.heap.size w3 W → Calls Tryd.prog 10 #[.slice a n c] W (ParseOPost W R)) := Lib.hid fun W hb => by
      rw [← hR]
      exact refParseO_any W a n c args (HTS.out.below (HB3.out.trans (hb.mono HB3.out.size))) (by omega) HS2.out
    have HRE := Lib.hid hR
    have HLEN : Hid (R.1.parts.length ≤ n ∧ R.1.files.length ≤ n) := Lib.hid (by
      have := par_len args.length args opt0 n n (Nat.le_refl _) (by rw [HL.out]; simp [opt0]) (by rw [HL.out]; exact Nat.le_refl _)
      rw [hR] at this
      exact this)
    clear hR
    obtain ⟨o, ec, of⟩ := R
    unfold ParseOPost at HPA HRP
    simp only at HPA HRP HLEN
    have HXw3 : Hid (Below w3.heap.size w3 w3) := Lib.hid (Below.refl _ _)
    go_wp2_with (go_at_call 9; refine (HPA.out w3 HXw3.out).mono ?_)
    rintro r w4 ⟨ap5, cp5, af5, cf5, rfl, hp, hf, hbb⟩
    have HZ := Lib.hid (heap_alloc_new w4 (.cells zeroO TOpt))
    have HY := Lib.hid (BO.lay (W := w4) (lo := w.heap.size) hp hf (Nat.le_trans HB3.out.size HXw3.out.size) hbb.size)
    have HAP := Lib.hid (And.intro hp hf)
    have HBB := Lib.hid hbb
    clear hp hf hbb
    go_upto_region 6 with (refine wpList_store_row rfl TOpt (.tmp 5) (.tmp 34) rfl rfl w4.heap.size TOpt _ _ rfl rfl HZ.out rfl infoO (by simp [Value.oneCell']) ?_)
    have HXw5 : Hid (Below w3.heap.size w3 ((w4.alloc (.cells zeroO TOpt)).setRow w4.heap.size (fullO o (.slice ap5 o.parts.length cp5) (.slice af5 o.files.length cf5)))) := Lib.hid (HXw3.out.trans ((HBB.out.trans (HY.out.2.mono HBB.out.size)).mono HXw3.out.size))
    have HO5 := Lib.hid HY.out.1
    have HFG5 : Hid (w3.heap.size ≤ w4.heap.size ∧ (Value.slice ap5 o.parts.length cp5).ownBlock ≠ some g ∧ (Value.slice af5 o.files.length cf5).ownBlock ≠ some g) := Lib.hid ⟨(HXw3.out.trans (HBB.out.mono HXw3.out.size)).size, fun e => by have := (World.ownsRow.lt HAP.out.1 g e).1; have := HXw3.out.size; have := HG3.out; omega, fun e => by have := (World.ownsRow.lt HAP.out.2 g e).1; have := HXw3.out.size; have := HG3.out; omega⟩
    clear HZ HY HAP HBB
    generalize (w4.alloc (.cells #[.bool false, .bool false, .bool false, .bool false, .slice none 0 0, .slice none 0 0] 28)).setRow w4.heap.size (fullO o (.slice ap5 o.parts.length cp5) (.slice af5 o.files.length cf5)) = w5 at HXw5 HO5  ⊢
    obtain ⟨b5, hbk⟩ : ∃ b, w4.heap.size = b := ⟨_, rfl⟩
    rw [hbk] at HO5 HFG5  ⊢
    clear hbk
    go_wp2_with (go_at_call 9; refine (HPA.out w5 HXw5.out).mono ?_)
    rintro r w6 ⟨ap8, cp8, af8, cf8, rfl, hp, hf, hbb⟩
    have HZ := Lib.hid (heap_alloc_new w6 (.cells zeroO TOpt))
    have HY := Lib.hid (BO.lay (W := w6) (lo := w.heap.size) hp hf (Nat.le_trans HB3.out.size HXw5.out.size) hbb.size)
    have HAP := Lib.hid (And.intro hp hf)
    have HBB := Lib.hid hbb
    clear hp hf hbb
    go_upto_region 7 with (refine wpList_store_row rfl TOpt (.tmp 8) (.tmp 40) rfl rfl w6.heap.size TOpt _ _ rfl rfl HZ.out rfl infoO (by simp [Value.oneCell']) ?_)
    have HXw7 : Hid (Below w3.heap.size w3 ((w6.alloc (.cells zeroO TOpt)).setRow w6.heap.size (fullO o (.slice ap8 o.parts.length cp8) (.slice af8 o.files.length cf8)))) := Lib.hid (HXw5.out.trans ((HBB.out.trans (HY.out.2.mono HBB.out.size)).mono HXw5.out.size))
    have HN5 := Lib.hid ((HO5.out.below HBB.out).below HY.out.2)
    have HF58 : Hid (Apart (.slice ap5 o.parts.length cp5) (.slice ap8 o.parts.length cp8) ∧ Apart (.slice af5 o.files.length cf5) (.slice af8 o.files.length cf8) ∧ b5 < w6.heap.size) := Lib.hid ⟨apart_ownP HAP.out.1 (own_topP HO5.out.p), apart_ownP HAP.out.2 (own_topP HO5.out.f), Nat.lt_of_lt_of_le HO5.out.lt HBB.out.size⟩
    clear HO5
    have HO8 := Lib.hid HY.out.1
    have HFG8 : Hid (w3.heap.size ≤ w6.heap.size ∧ (Value.slice ap8 o.parts.length cp8).ownBlock ≠ some g ∧ (Value.slice af8 o.files.length cf8).ownBlock ≠ some g) := Lib.hid ⟨(HXw5.out.trans (HBB.out.mono HXw5.out.size)).size, fun e => by have := (World.ownsRow.lt HAP.out.1 g e).1; have := HXw5.out.size; have := HG3.out; omega, fun e => by have := (World.ownsRow.lt HAP.out.2 g e).1; have := HXw5.out.size; have := HG3.out; omega⟩
    clear HZ HY HAP HBB
    generalize (w6.alloc (.cells #[.bool false, .bool false, .bool false, .bool false, .slice none 0 0, .slice none 0 0] 28)).setRow w6.heap.size (fullO o (.slice ap8 o.parts.length cp8) (.slice af8 o.files.length cf8)) = w7 at HXw7 HO8 HN5 ⊢
    obtain ⟨b8, hbk⟩ : ∃ b, w6.heap.size = b := ⟨_, rfl⟩
    rw [hbk] at HO8 HFG8 HF58 ⊢
    clear hbk
    have HO5 := HN5
    clear HN5
    go_wp2_with (go_at_call 10; refine (HRP.out w7 HXw7.out).mono ?_)
    rintro r w8 ⟨ap11, cp11, af11, cf11, rfl, hp, hf, hbb⟩
    have HZ := Lib.hid (heap_alloc_new w8 (.cells zeroO TOpt))
    have HY := Lib.hid (BO.lay (W := w8) (lo := w.heap.size) hp hf (Nat.le_trans HB3.out.size HXw7.out.size) hbb.size)
    have HAP := Lib.hid (And.intro hp hf)
    have HBB := Lib.hid hbb
    clear hp hf hbb
    go_upto_region 8 with (refine wpList_store_row rfl TOpt (.tmp 11) (.tmp 46) rfl rfl w8.heap.size TOpt _ _ rfl rfl HZ.out rfl infoO (by simp [Value.oneCell']) ?_)
    have HXw9 : Hid (Below w3.heap.size w3 ((w8.alloc (.cells zeroO TOpt)).setRow w8.heap.size (fullO o (.slice ap11 o.parts.length cp11) (.slice af11 o.files.length cf11)))) := Lib.hid (HXw7.out.trans ((HBB.out.trans (HY.out.2.mono HBB.out.size)).mono HXw7.out.size))
    have HN5 := Lib.hid ((HO5.out.below HBB.out).below HY.out.2)
    have HF511 : Hid (Apart (.slice ap5 o.parts.length cp5) (.slice ap11 o.parts.length cp11) ∧ Apart (.slice af5 o.files.length cf5) (.slice af11 o.files.length cf11) ∧ b5 < w8.heap.size) := Lib.hid ⟨apart_ownP HAP.out.1 (own_topP HO5.out.p), apart_ownP HAP.out.2 (own_topP HO5.out.f), Nat.lt_of_lt_of_le HO5.out.lt HBB.out.size⟩
    clear HO5
    have HN8 := Lib.hid ((HO8.out.below HBB.out).below HY.out.2)
    have HF811 : Hid (Apart (.slice ap8 o.parts.length cp8) (.slice ap11 o.parts.length cp11) ∧ Apart (.slice af8 o.files.length cf8) (.slice af11 o.files.length cf11) ∧ b8 < w8.heap.size) := Lib.hid ⟨apart_ownP HAP.out.1 (own_topP HO8.out.p), apart_ownP HAP.out.2 (own_topP HO8.out.f), Nat.lt_of_lt_of_le HO8.out.lt HBB.out.size⟩
    clear HO8
    have HO11 := Lib.hid HY.out.1
    have HFG11 : Hid (w3.heap.size ≤ w8.heap.size ∧ (Value.slice ap11 o.parts.length cp11).ownBlock ≠ some g ∧ (Value.slice af11 o.files.length cf11).ownBlock ≠ some g) := Lib.hid ⟨(HXw7.out.trans (HBB.out.mono HXw7.out.size)).size, fun e => by have := (World.ownsRow.lt HAP.out.1 g e).1; have := HXw7.out.size; have := HG3.out; omega, fun e => by have := (World.ownsRow.lt HAP.out.2 g e).1; have := HXw7.out.size; have := HG3.out; omega⟩
    clear HZ HY HAP HBB
    generalize (w8.alloc (.cells #[.bool false, .bool false, .bool false, .bool false, .slice none 0 0, .slice none 0 0] 28)).setRow w8.heap.size (fullO o (.slice ap11 o.parts.length cp11) (.slice af11 o.files.length cf11)) = w9 at HXw9 HO11 HN5 HN8 ⊢
    obtain ⟨b11, hbk⟩ : ∃ b, w8.heap.size = b := ⟨_, rfl⟩
    rw [hbk] at HO11 HFG11 HF511 HF811 ⊢
    clear hbk
    have HO5 := HN5
    clear HN5
    have HO8 := HN8
    clear HN8
    have HLS : Hid (LS w w9 g (wideT args) b5 o (.slice ap5 o.parts.length cp5) (.slice af5 o.files.length cf5) b8 o (.slice ap8 o.parts.length cp8) (.slice af8 o.files.length cf8) b11 o (.slice ap11 o.parts.length cp11) (.slice af11 o.files.length cf11)) := Lib.hid ⟨HA3.out.below HXw9.out, HO5.out, HO8.out, HO11.out, HB3.out.trans (HXw9.out.mono HB3.out.size)⟩
    have HNG : Hid (w.heap.size ≤ g ∧ (b5 ≠ g ∧ b8 ≠ g ∧ b11 ≠ g) ∧ ((Value.slice ap5 o.parts.length cp5).ownBlock ≠ some g ∧ (Value.slice af5 o.files.length cf5).ownBlock ≠ some g) ∧ ((Value.slice ap8 o.parts.length cp8).ownBlock ≠ some g ∧ (Value.slice af8 o.files.length cf8).ownBlock ≠ some g) ∧ ((Value.slice ap11 o.parts.length cp11).ownBlock ≠ some g ∧ (Value.slice af11 o.files.length cf11).ownBlock ≠ some g)) := Lib.hid ⟨HGE.out, ⟨by have := HFG5.out.1; have := HG3.out; omega, by have := HFG8.out.1; have := HG3.out; omega, by have := HFG11.out.1; have := HG3.out; omega⟩, HFG5.out.2, HFG8.out.2, HFG11.out.2⟩
    clear HO5 HO8 HO11 HXw3 HXw5 HXw7 HXw9 HPA HRP HT3 HA3
    have HTSW : Hid (∀ W, ArrT W g (wideT args) → TS W (.slice (some ⟨g, 0, none⟩) n (n + 64)) args) := Lib.hid fun W h => by
      have := h.ts (m := marksT args.length) (by rw [HL.out]; omega) (n + 64) (by rw [HL.out]; omega)
      rw [HL.out] at this
      exact this
    have HE1 := Lib.hid (eqTexts_same w9 _ n _ args (HTSW.out w9 HLS.out.wide) a n c (HTS.out.below HLS.out.bel))
    go_wp2_with (go_at_call 11; refine HE1.out.mono ?_)
    rintro r w10 ⟨rfl, qn, rfl⟩
    have HL10 := Lib.hid (HLS.out.below (below_drewN (Below.refl _ w9) qn))
    generalize w9.drewN qn = w10 at HL10 ⊢
    clear HE1 HLS
    have HSP := Lib.hid (spareT_any w10 (HTW.out.below HL10.out.bel) g n hn (wideT args) (by rw [wideT_len, HL.out]) (fun j h1 h2 => wideT_hi args j (by rw [HL.out]; exact h1) (by rw [HL.out]; exact h2)) HL10.out.wide)
    go_wp2_with (go_at_call 12; refine HSP.out.mono ?_)
    rintro r w11 ⟨rfl, bb⟩
    have HL11 := Lib.hid (HL10.out.below bb)
    clear bb HSP HL10
    go_upto_region 9 with fail
    have hec : (ec == ec) = true := by simp
    have hof : (ByteArray.toList of == ByteArray.toList of) = true := by simp
    have HEO : Hid (∀ W {m : List Str} {x y : Nat} {p5 f5 p8 f8 p11 f11 : Value}, LS w W g m b5 o p5 f5 b8 o p8 f8 b11 o p11 f11 → True) := Lib.hid fun _ _ _ _ _ _ _ _ _ _ _ => trivial
    have HQ : Hid (∀ W (b b' : Nat) (ap af ap' af' : Option Addr) (cp cf cp' cf' : Nat), BO W w.heap.size b o (.slice ap o.parts.length cp) (.slice af o.files.length cf) → BO W w.heap.size b' o (.slice ap' o.parts.length cp') (.slice af' o.files.length cf') → Calls Tryd.prog 13 #[.agg (fullO o (.slice ap o.parts.length cp) (.slice af o.files.length cf)), .agg (fullO o (.slice ap' o.parts.length cp') (.slice af' o.files.length cf'))] W fun e w' => e = .returned (.bool true) ∧ Below W.heap.size W w') := Lib.hid fun W b b' ap af ap' af' cp cf cp' cf' h h' =>
      eqOptions_same W o.q o.e o.a o.i o.parts o.files ap _ cp (h.p.pt (by have := HLEN.out.1; omega)) af _ cf (h.f.ts (by have := HLEN.out.2; omega)) ap' _ cp' (h'.p.pt (by have := HLEN.out.1; omega)) af' _ cf' (h'.f.ts (by have := HLEN.out.2; omega))
    clear HEO
    have c0 : w11.cell? ⟨b5, 0, none⟩ = some (.bool o.q) := cell_of_row w11 b5 0 _ _ (0, 0) HL11.out.h5.box
    have c1 : w11.cell? ⟨b5, 1, none⟩ = some (.bool o.e) := cell_of_row w11 b5 1 _ _ (0, 0) HL11.out.h5.box
    have c2 : w11.cell? ⟨b5, 2, none⟩ = some (.bool o.a) := cell_of_row w11 b5 2 _ _ (0, 0) HL11.out.h5.box
    have c3 : w11.cell? ⟨b5, 3, none⟩ = some (.bool o.i) := cell_of_row w11 b5 3 _ _ (0, 0) HL11.out.h5.box
    have c4 : w11.cell? ⟨b5, 4, none⟩ = some (.slice ap5 o.parts.length cp5) := cell_of_row w11 b5 4 _ _ (0, 0) HL11.out.h5.box
    have c5 : w11.cell? ⟨b5, 5, none⟩ = some (.slice af5 o.files.length cf5) := cell_of_row w11 b5 5 _ _ (0, 0) HL11.out.h5.box
    have d0 : w11.cell? ⟨b11, 0, none⟩ = some (.bool o.q) := cell_of_row w11 b11 0 _ _ (0, 0) HL11.out.h11.box
    have d1 : w11.cell? ⟨b11, 1, none⟩ = some (.bool o.e) := cell_of_row w11 b11 1 _ _ (0, 0) HL11.out.h11.box
    have d2 : w11.cell? ⟨b11, 2, none⟩ = some (.bool o.a) := cell_of_row w11 b11 2 _ _ (0, 0) HL11.out.h11.box
    have d3 : w11.cell? ⟨b11, 3, none⟩ = some (.bool o.i) := cell_of_row w11 b11 3 _ _ (0, 0) HL11.out.h11.box
    have d4 : w11.cell? ⟨b11, 4, none⟩ = some (.slice ap11 o.parts.length cp11) := cell_of_row w11 b11 4 _ _ (0, 0) HL11.out.h11.box
    have d5 : w11.cell? ⟨b11, 5, none⟩ = some (.slice af11 o.files.length cf11) := cell_of_row w11 b11 5 _ _ (0, 0) HL11.out.h11.box
    have HE := Lib.hid (HQ.out w11 b5 b11 ap5 af5 ap11 af11 cp5 cf5 cp11 cf11 HL11.out.h5 HL11.out.h11)
    go_wp2_with (go_at_call 13; refine HE.out.mono ?_)
    rintro r w12 ⟨rfl, bb⟩
    have HL12 := Lib.hid (HL11.out.below bb)
    clear bb HE
    clear c0 c1 c2 c3 c4 c5 d0 d1 d2 d3 d4 d5
    have c0 : w12.cell? ⟨b8, 0, none⟩ = some (.bool o.q) := cell_of_row w12 b8 0 _ _ (0, 0) HL12.out.h8.box
    have c1 : w12.cell? ⟨b8, 1, none⟩ = some (.bool o.e) := cell_of_row w12 b8 1 _ _ (0, 0) HL12.out.h8.box
    have c2 : w12.cell? ⟨b8, 2, none⟩ = some (.bool o.a) := cell_of_row w12 b8 2 _ _ (0, 0) HL12.out.h8.box
    have c3 : w12.cell? ⟨b8, 3, none⟩ = some (.bool o.i) := cell_of_row w12 b8 3 _ _ (0, 0) HL12.out.h8.box
    have c4 : w12.cell? ⟨b8, 4, none⟩ = some (.slice ap8 o.parts.length cp8) := cell_of_row w12 b8 4 _ _ (0, 0) HL12.out.h8.box
    have c5 : w12.cell? ⟨b8, 5, none⟩ = some (.slice af8 o.files.length cf8) := cell_of_row w12 b8 5 _ _ (0, 0) HL12.out.h8.box
    have d0 : w12.cell? ⟨b11, 0, none⟩ = some (.bool o.q) := cell_of_row w12 b11 0 _ _ (0, 0) HL12.out.h11.box
    have d1 : w12.cell? ⟨b11, 1, none⟩ = some (.bool o.e) := cell_of_row w12 b11 1 _ _ (0, 0) HL12.out.h11.box
    have d2 : w12.cell? ⟨b11, 2, none⟩ = some (.bool o.a) := cell_of_row w12 b11 2 _ _ (0, 0) HL12.out.h11.box
    have d3 : w12.cell? ⟨b11, 3, none⟩ = some (.bool o.i) := cell_of_row w12 b11 3 _ _ (0, 0) HL12.out.h11.box
    have d4 : w12.cell? ⟨b11, 4, none⟩ = some (.slice ap11 o.parts.length cp11) := cell_of_row w12 b11 4 _ _ (0, 0) HL12.out.h11.box
    have d5 : w12.cell? ⟨b11, 5, none⟩ = some (.slice af11 o.files.length cf11) := cell_of_row w12 b11 5 _ _ (0, 0) HL12.out.h11.box
    have HE := Lib.hid (HQ.out w12 b8 b11 ap8 af8 ap11 af11 cp8 cf8 cp11 cf11 HL12.out.h8 HL12.out.h11)
    go_wp2_with (go_at_call 13; refine HE.out.mono ?_)
    rintro r w13 ⟨rfl, bb⟩
    have HL13 := Lib.hid (HL12.out.below bb)
    clear bb HE
    clear c0 c1 c2 c3 c4 c5 d0 d1 d2 d3 d4 d5
    go_wp2_with fail
    have HMB0 : Hid (∀ j, j < n → ((wideT args)[j]?.getD ByteArray.empty).size ≤ 9223372036854775807) := Lib.hid fun j hj => by
      rw [wideT_lo args j (by rw [HL.out]; exact hj), List.getElem?_eq_getElem (by rw [HL.out]; exact hj)]
      exact HS2.out _ (List.getElem_mem _)
    go_loopw [15] (fun v wx => ∃ (i : Nat) (m : List Str), v = .int .i64 i ∧ 2 * i ≤ n + 1 ∧ m.length = n + 64 ∧ (∀ j, j < n → (m[j]?.getD ByteArray.empty).size ≤ 9223372036854775807) ∧ LS w wx g m b5 o (.slice ap5 o.parts.length cp5) (.slice af5 o.files.length cf5) b8 o (.slice ap8 o.parts.length cp8) (.slice af8 o.files.length cf8) b11 o (.slice ap11 o.parts.length cp11) (.slice af11 o.files.length cf11)) (fun v _ => n - (intOf v).toNat)
    case atStart => exact ⟨0, _, rfl, by omega, by rw [wideT_len, HL.out], HMB0.out, HL13.out⟩
    case round =>
      clear HL13 HMB0
      obtain ⟨i, m, rfl, hi, hml, hmb, hLS⟩ := hrel
      have HLS := Lib.hid hLS
      have HML := Lib.hid hml
      have HMB := Lib.hid hmb
      clear hLS hml hmb
      by_cases hlt : 2 * i + 1 < n
      · have hd : decide (2 * (i : Int) + 1 < (n : Int)) = true := decide_eq_true (by omega)
        obtain ⟨k, hk⟩ : ∃ k, n - 1 - i = k := ⟨_, rfl⟩
        have hki : (n : Int) - 1 - (i : Int) = (k : Int) := by omega
        have hkn : k < n := by omega
        have hin : i < n := by omega
        have HKI : Hid (k ≠ i) := Lib.hid (by omega)
        clear hk
        obtain ⟨x, hx⟩ : ∃ x, m[i]?.getD ByteArray.empty = x := ⟨_, rfl⟩
        obtain ⟨y, hy⟩ : ∃ y, m[k]?.getD ByteArray.empty = y := ⟨_, rfl⟩
        have c1 := HLS.out.wide.cell i (by rw [HML.out]; omega)
        have c2 := HLS.out.wide.cell k (by rw [HML.out]; omega)
        rw [hx] at c1
        rw [hy] at c2
        have f1 := HLS.out.wide.frozen i
        have HST1 := Lib.hid (HLS.out.store HNG.out i y)
        have c3 : ∃ z, (wr.setCell ⟨g, i, none⟩ (.string y)).cell? ⟨g, k, none⟩ = some z := ⟨_, HST1.out.wide.cell k (by rw [List.length_set, HML.out]; omega)⟩
        obtain ⟨z, c3⟩ := c3
        have f3 := HST1.out.wide.frozen k
        have HST2 := Lib.hid (HST1.out.store HNG.out k x)
        have HMB2 : Hid (∀ j, j < n → (((m.set i y).set k x)[j]?.getD ByteArray.empty).size ≤ 9223372036854775807) := Lib.hid fun j hj => by
          rw [List.getElem?_set]
          split
          · split
            · rw [Option.getD_some, ← hx]; exact HMB.out i hin
            · exact Nat.zero_le _
          · rw [List.getElem?_set]
            split
            · split
              · rw [Option.getD_some, ← hy]; exact HMB.out k hkn
              · exact Nat.zero_le _
            · exact HMB.out j hj
        clear hx hy
        go_wp2_with fail
        go_roundw
        case rel => exact ⟨i + 1, _, by go_num, by omega, by rw [List.length_set, List.length_set, HML.out], HMB2.out, HST2.out⟩
        case measure => simp [intOf]; omega
      · have hd : decide (2 * (i : Int) + 1 < (n : Int)) = false := decide_eq_false (by omega)
        have c0 : wr.cell? ⟨b5, 0, none⟩ = some (.bool o.q) := cell_of_row wr b5 0 _ _ (0, 0) HLS.out.h5.box
        have c1 : wr.cell? ⟨b5, 1, none⟩ = some (.bool o.e) := cell_of_row wr b5 1 _ _ (0, 0) HLS.out.h5.box
        have c2 : wr.cell? ⟨b5, 2, none⟩ = some (.bool o.a) := cell_of_row wr b5 2 _ _ (0, 0) HLS.out.h5.box
        have c3 : wr.cell? ⟨b5, 3, none⟩ = some (.bool o.i) := cell_of_row wr b5 3 _ _ (0, 0) HLS.out.h5.box
        have c4 : wr.cell? ⟨b5, 4, none⟩ = some (.slice ap5 o.parts.length cp5) := cell_of_row wr b5 4 _ _ (0, 0) HLS.out.h5.box
        have c5 : wr.cell? ⟨b5, 5, none⟩ = some (.slice af5 o.files.length cf5) := cell_of_row wr b5 5 _ _ (0, 0) HLS.out.h5.box
        have d0 : wr.cell? ⟨b11, 0, none⟩ = some (.bool o.q) := cell_of_row wr b11 0 _ _ (0, 0) HLS.out.h11.box
        have d1 : wr.cell? ⟨b11, 1, none⟩ = some (.bool o.e) := cell_of_row wr b11 1 _ _ (0, 0) HLS.out.h11.box
        have d2 : wr.cell? ⟨b11, 2, none⟩ = some (.bool o.a) := cell_of_row wr b11 2 _ _ (0, 0) HLS.out.h11.box
        have d3 : wr.cell? ⟨b11, 3, none⟩ = some (.bool o.i) := cell_of_row wr b11 3 _ _ (0, 0) HLS.out.h11.box
        have d4 : wr.cell? ⟨b11, 4, none⟩ = some (.slice ap11 o.parts.length cp11) := cell_of_row wr b11 4 _ _ (0, 0) HLS.out.h11.box
        have d5 : wr.cell? ⟨b11, 5, none⟩ = some (.slice af11 o.files.length cf11) := cell_of_row wr b11 5 _ _ (0, 0) HLS.out.h11.box
        have HE := Lib.hid (HQ.out wr b5 b11 ap5 af5 ap11 af11 cp5 cf5 cp11 cf11 HLS.out.h5 HLS.out.h11)
        go_wp2_with (go_at_call 13; refine HE.out.mono ?_)
        rintro r w14 ⟨rfl, bb⟩
        have HL14 := Lib.hid (HLS.out.below bb)
        clear bb HE
        clear c0 c1 c2 c3 c4 c5 d0 d1 d2 d3 d4 d5
        obtain ⟨A2, M2, hAM, hA2⟩ : ∃ A2 M2 : List Str, m = A2 ++ M2 ∧ A2.length = n := ⟨m.take n, m.drop n, (List.take_append_drop n m).symm, by rw [List.length_take, HML.out]; omega⟩
        have HA2 := Lib.hid hA2
        have HSA : Hid (∀ s ∈ A2, s.size ≤ 9223372036854775807) := Lib.hid fun s hs => by
          obtain ⟨j, hj, rfl⟩ := List.getElem_of_mem hs
          have := HMB.out j (by omega)
          rw [hAM, List.getElem?_append_left (by omega), List.getElem?_eq_getElem hj] at this
          exact this
        rw [hAM] at HL14
        have HTA : Hid (∀ W, ArrT W g (A2 ++ M2) → TS W (.slice (some ⟨g, 0, none⟩) n (n + 64)) A2) := Lib.hid fun W h => by
          have := h.ts (by omega) (n + 64) (by omega)
          rw [HA2.out] at this
          exact this
        clear hAM hA2 HMB HML HLS
        have HCP := Lib.hid (copyT_any w14 _ n _ A2 (HTA.out w14 HL14.out.wide))
        go_wp2_with (go_at_call 14; refine HCP.out.mono ?_)
        rintro r w15 ⟨v, rfl, hv, bb⟩
        obtain ⟨ac, cc, hvs⟩ := own_shape hv
        rw [HA2.out] at hvs
        subst hvs
        have HV := Lib.hid hv
        have HL15 := Lib.hid (HL14.out.below bb)
        clear hv bb HCP HL14
        obtain ⟨R2, hR2⟩ : ∃ R, parF A2 opt0 = R := ⟨_, rfl⟩
        have HLN2 : Hid (R2.1.parts.length ≤ n ∧ R2.1.files.length ≤ n) := Lib.hid (by
          have := par_len A2.length A2 opt0 n n (Nat.le_refl _) (by rw [HA2.out]; simp [opt0]) (by rw [HA2.out]; exact Nat.le_refl _)
          rw [hR2] at this
          exact this)
        have HP15 : Hid (Calls Tryd.prog 9 #[.slice (some ⟨g, 0, none⟩) n (n + 64)] w15 (ParseOPost w15 R2)) := Lib.hid (by
          rw [← hR2]
          exact parseO_any w15 _ n _ A2 (HTA.out w15 HL15.out.wide) (by omega) HSA.out)
        have HR2 : Hid (∀ W, Below w15.heap.size w15 W → Calls Tryd.prog 10 #[.slice ac n cc] W (ParseOPost W R2)) := Lib.hid fun W hb => by
          rw [← hR2]
          have hts := (HV.out.ts (by rw [HA2.out]; omega) : TS w15 _ A2)
          exact refParseO_any W ac n cc A2 (hts.below hb) (by omega) HSA.out
        clear hR2
        obtain ⟨o2, ec2, of2⟩ := R2
        unfold ParseOPost at HP15 HR2
        simp only at HP15 HR2 HLN2
        go_wp2_with (go_at_call 9; refine HP15.out.mono ?_)
        rintro r w16 ⟨ap18, cp18, af18, cf18, rfl, hp, hf, hbb⟩
        have HZ := Lib.hid (heap_alloc_new w16 (.cells zeroO TOpt))
        have HY := Lib.hid (BO.lay (W := w16) (lo := w.heap.size) hp hf HL15.out.bel.size hbb.size)
        have HFP : Hid ((Apart (.slice ap5 o.parts.length cp5) (.slice ap18 o2.parts.length cp18) ∧ Apart (.slice af5 o.files.length cf5) (.slice af18 o2.files.length cf18)) ∧ Apart (.slice ap8 o.parts.length cp8) (.slice ap18 o2.parts.length cp18) ∧ Apart (.slice af8 o.files.length cf8) (.slice af18 o2.files.length cf18)) := Lib.hid ⟨⟨apart_ownP hp (own_topP HL15.out.h5.p), apart_ownP hf (own_topP HL15.out.h5.f)⟩, apart_ownP hp (own_topP HL15.out.h8.p), apart_ownP hf (own_topP HL15.out.h8.f)⟩
        have HBB := Lib.hid hbb
        clear hp hf hbb
        go_upto_region 21 with (refine wpList_store_row rfl TOpt (.tmp 18) (.tmp 134) rfl rfl w16.heap.size TOpt _ _ rfl rfl HZ.out rfl infoO (by simp [Value.oneCell']) ?_)
        have HL17 := Lib.hid ((HL15.out.below HBB.out).below HY.out.2)
        have HX17 := Lib.hid (HBB.out.trans (HY.out.2.mono HBB.out.size))
        have HO18 := Lib.hid HY.out.1
        have HLT : Hid (b11 < w16.heap.size) := Lib.hid (HL15.out.below HBB.out).h11.lt
        clear HZ HY HBB HP15 HL15
        generalize (w16.alloc (.cells #[.bool false, .bool false, .bool false, .bool false, .slice none 0 0, .slice none 0 0] 28)).setRow w16.heap.size (fullO o2 (.slice ap18 o2.parts.length cp18) (.slice af18 o2.files.length cf18)) = w17 at HL17 HX17 HO18 ⊢
        obtain ⟨b18, hb18⟩ : ∃ b, w16.heap.size = b := ⟨_, rfl⟩
        rw [hb18] at HO18 HLT ⊢
        clear hb18
        go_wp2_with (go_at_call 10; refine (HR2.out w17 HX17.out).mono ?_)
        rintro r w18 ⟨ap21, cp21, af21, cf21, rfl, hp, hf, hbb⟩
        have HL18 := Lib.hid (HL17.out.below hbb)
        have HN18 := Lib.hid (HO18.out.below hbb)
        have HPW : Hid (OwnPt w18 w.heap.size (.slice ap21 o2.parts.length cp21) o2.parts ∧ OwnT w18 w.heap.size (.slice af21 o2.files.length cf21) o2.files) := Lib.hid ⟨own_mono hp HL17.out.bel.size, own_mono hf HL17.out.bel.size⟩
        have HFR : Hid ((Value.slice ap21 o2.parts.length cp21).ownBlock ≠ some b11 ∧ (Value.slice af21 o2.files.length cf21).ownBlock ≠ some b11) := Lib.hid ⟨fun e => by have := (World.ownsRow.lt hp b11 e).1; have := HL17.out.h11.lt; omega, fun e => by have := (World.ownsRow.lt hf b11 e).1; have := HL17.out.h11.lt; omega⟩
        clear hp hf hbb HL17 HO18 HR2
        go_upto_region 22 with (refine wpList_store_row rfl TOpt (.tmp 11) (.tmp 140) rfl rfl b11 TOpt _ _ rfl rfl HL18.out.h11.box rfl infoO (by simp [Value.oneCell']) ?_)
        have HRK : Hid (∀ (t : TypeId) (sz nn : Nat) (v : Value) (xs : List Value), t ≠ TOpt → w18.ownsRow w.heap.size t sz v nn xs → (w18.setRow b11 (fullO o2 (.slice ap21 o2.parts.length cp21) (.slice af21 o2.files.length cf21))).ownsRow w.heap.size t sz v nn xs) := Lib.hid fun t sz nn v xs ht ho => own_keptW ho fun k hk => _root_.Go.setRow_other _ _ _ _ (fun e => by
          subst e
          rcases ho.2 with ⟨rfl, -⟩ | ⟨g', cap, cur, rfl, _, hh, _⟩
          · simp [Value.ownBlock] at hk
          · simp [Value.ownBlock] at hk
            subst hk
            rw [HL18.out.h11.box] at hh
            simp only [Option.some.injEq, Obj.cells.injEq] at hh
            exact ht hh.2.1.symm)
        have HM5 : Hid (BO (w18.setRow b11 (fullO o2 (.slice ap21 o2.parts.length cp21) (.slice af21 o2.files.length cf21))) w.heap.size b5 o (.slice ap5 o.parts.length cp5) (.slice af5 o.files.length cf5)) := Lib.hid ⟨(_root_.Go.setRow_other _ _ _ _ (by have := HF511.out.2.2; omega)).trans HL18.out.h5.box, HRK.out _ _ _ _ _ (by decide) HL18.out.h5.p, HRK.out _ _ _ _ _ (by decide) HL18.out.h5.f, HL18.out.h5.ge⟩
        have HM8 : Hid (BO (w18.setRow b11 (fullO o2 (.slice ap21 o2.parts.length cp21) (.slice af21 o2.files.length cf21))) w.heap.size b8 o (.slice ap8 o.parts.length cp8) (.slice af8 o.files.length cf8)) := Lib.hid ⟨(_root_.Go.setRow_other _ _ _ _ (by have := HF811.out.2.2; omega)).trans HL18.out.h8.box, HRK.out _ _ _ _ _ (by decide) HL18.out.h8.p, HRK.out _ _ _ _ _ (by decide) HL18.out.h8.f, HL18.out.h8.ge⟩
        have HM18 : Hid (BO (w18.setRow b11 (fullO o2 (.slice ap21 o2.parts.length cp21) (.slice af21 o2.files.length cf21))) w.heap.size b18 o2 (.slice ap18 o2.parts.length cp18) (.slice af18 o2.files.length cf18)) := Lib.hid ⟨(_root_.Go.setRow_other _ _ _ _ (by have := HLT.out; omega)).trans HN18.out.box, HRK.out _ _ _ _ _ (by decide) HN18.out.p, HRK.out _ _ _ _ _ (by decide) HN18.out.f, HN18.out.ge⟩
        have HM11 : Hid (BO (w18.setRow b11 (fullO o2 (.slice ap21 o2.parts.length cp21) (.slice af21 o2.files.length cf21))) w.heap.size b11 o2 (.slice ap21 o2.parts.length cp21) (.slice af21 o2.files.length cf21)) := Lib.hid ⟨setRow_heap _ _ _ _ _ _ HL18.out.h11.box, HRK.out _ _ _ _ _ (by decide) HPW.out.1, HRK.out _ _ _ _ _ (by decide) HPW.out.2, HL18.out.h11.ge⟩
        have HB19 : Hid (Below w.heap.size w (w18.setRow b11 (fullO o2 (.slice ap21 o2.parts.length cp21) (.slice af21 o2.files.length cf21)))) := Lib.hid (below_setRow HL18.out.bel HL18.out.h11.ge _)
        clear HRK HL18 HN18 HPW HFR HX17
        generalize w18.setRow b11 (fullO o2 (.slice ap21 o2.parts.length cp21) (.slice af21 o2.files.length cf21)) = w19 at HM5 HM8 HM18 HM11 HB19 ⊢
        have hec2 : (ec2 == ec2) = true := by simp
        have c0 : w19.cell? ⟨b18, 0, none⟩ = some (.bool o2.q) := cell_of_row w19 b18 0 _ _ (0, 0) HM18.out.box
        have c1 : w19.cell? ⟨b18, 1, none⟩ = some (.bool o2.e) := cell_of_row w19 b18 1 _ _ (0, 0) HM18.out.box
        have c2 : w19.cell? ⟨b18, 2, none⟩ = some (.bool o2.a) := cell_of_row w19 b18 2 _ _ (0, 0) HM18.out.box
        have c3 : w19.cell? ⟨b18, 3, none⟩ = some (.bool o2.i) := cell_of_row w19 b18 3 _ _ (0, 0) HM18.out.box
        have c4 : w19.cell? ⟨b18, 4, none⟩ = some (.slice ap18 o2.parts.length cp18) := cell_of_row w19 b18 4 _ _ (0, 0) HM18.out.box
        have c5 : w19.cell? ⟨b18, 5, none⟩ = some (.slice af18 o2.files.length cf18) := cell_of_row w19 b18 5 _ _ (0, 0) HM18.out.box
        have d0 : w19.cell? ⟨b11, 0, none⟩ = some (.bool o2.q) := cell_of_row w19 b11 0 _ _ (0, 0) HM11.out.box
        have d1 : w19.cell? ⟨b11, 1, none⟩ = some (.bool o2.e) := cell_of_row w19 b11 1 _ _ (0, 0) HM11.out.box
        have d2 : w19.cell? ⟨b11, 2, none⟩ = some (.bool o2.a) := cell_of_row w19 b11 2 _ _ (0, 0) HM11.out.box
        have d3 : w19.cell? ⟨b11, 3, none⟩ = some (.bool o2.i) := cell_of_row w19 b11 3 _ _ (0, 0) HM11.out.box
        have d4 : w19.cell? ⟨b11, 4, none⟩ = some (.slice ap21 o2.parts.length cp21) := cell_of_row w19 b11 4 _ _ (0, 0) HM11.out.box
        have d5 : w19.cell? ⟨b11, 5, none⟩ = some (.slice af21 o2.files.length cf21) := cell_of_row w19 b11 5 _ _ (0, 0) HM11.out.box
        have HE := Lib.hid (eqOptions_same w19 o2.q o2.e o2.a o2.i o2.parts o2.files ap18 _ cp18 (HM18.out.p.pt (by have := HLN2.out.1; omega)) af18 _ cf18 (HM18.out.f.ts (by have := HLN2.out.2; omega)) ap21 _ cp21 (HM11.out.p.pt (by have := HLN2.out.1; omega)) af21 _ cf21 (HM11.out.f.ts (by have := HLN2.out.2; omega)))
        go_wp2_with (go_at_call 13; refine HE.out.mono ?_)
        rintro r w20 ⟨rfl, bb⟩
        have HK5 := Lib.hid (HM5.out.below bb)
        have HK8 := Lib.hid (HM8.out.below bb)
        have HK18 := Lib.hid (HM18.out.below bb)
        have HB20 := Lib.hid (HB19.out.trans (bb.mono HB19.out.size))
        clear bb HE HM5 HM8 HM18 HM11 HB19
        clear c0 c1 c2 c3 c4 c5 d0 d1 d2 d3 d4 d5
        have HG0 := Lib.hid (GTP.start (W := w) HB20.out)
        have hab := (Below.refl _ w20).alloc (Nat.le_refl _) bagZero
        have HO5 := Lib.hid (HK5.out.below hab)
        have HO8 := Lib.hid (HK8.out.below hab)
        have HO18 := Lib.hid (HK18.out.below hab)
        clear hab HK5 HK8 HK18 HB20
        go_upto_region 24 with fail
        generalize w20.alloc (.cells #[.slice none 0 0, .slice none 0 0, .slice none 0 0, .slice none 0 0, .slice none 0 0, .slice none 0 0, .slice none 0 0, .slice none 0 0, .slice none 0 0, .slice none 0 0, .slice none 0 0, .slice none 0 0, .slice none 0 0, .slice none 0 0, .slice none 0 0, .slice none 0 0, .slice none 0 0, .slice none 0 0, .slice none 0 0] 55) = w21 at HG0 HO5 HO8 HO18 ⊢
        generalize w20.heap.size = bg at HG0 ⊢
        have HA1 := Lib.hid (HG0.out.addO (by omega) (by omega) o ap5 _ cp5 af5 _ cf5 ⟨HO5.out.p, HO5.out.f⟩ (by have := HLEN.out.1; omega) (by have := HLEN.out.2; omega) (fun j hj => by omega) (fun j hj => by omega))
        have c0 : w21.cell? ⟨b5, 0, none⟩ = some (.bool o.q) := cell_of_row w21 b5 0 _ _ (0, 0) HO5.out.box
        have c1 : w21.cell? ⟨b5, 1, none⟩ = some (.bool o.e) := cell_of_row w21 b5 1 _ _ (0, 0) HO5.out.box
        have c2 : w21.cell? ⟨b5, 2, none⟩ = some (.bool o.a) := cell_of_row w21 b5 2 _ _ (0, 0) HO5.out.box
        have c3 : w21.cell? ⟨b5, 3, none⟩ = some (.bool o.i) := cell_of_row w21 b5 3 _ _ (0, 0) HO5.out.box
        have c4 : w21.cell? ⟨b5, 4, none⟩ = some (.slice ap5 o.parts.length cp5) := cell_of_row w21 b5 4 _ _ (0, 0) HO5.out.box
        have c5 : w21.cell? ⟨b5, 5, none⟩ = some (.slice af5 o.files.length cf5) := cell_of_row w21 b5 5 _ _ (0, 0) HO5.out.box
        go_wp2_with (go_at_call 15; refine HA1.out.mono ?_)
        rintro r w22 ⟨rfl, k1, k2, k3, fs1, bt1, bp1, hG1⟩
        have HP8 := Lib.hid ((⟨HO8.out.p, HO8.out.f⟩ : OwO _ _ o ap8 _ cp8 af8 _ cf8).keep k1 k2)
        have HP18 := Lib.hid ((⟨HO18.out.p, HO18.out.f⟩ : OwO _ _ o2 ap18 _ cp18 af18 _ cf18).keep k1 k2)
        have HX8 := Lib.hid ((k3 _ _ HO8.out.box).trans HO8.out.box)
        have HX18 := Lib.hid ((k3 _ _ HO18.out.box).trans HO18.out.box)
        have HA2 := Lib.hid (hG1.addO (by omega) (by omega) o ap8 _ cp8 af8 _ cf8 HP8.out (by have := HLEN.out.1; omega) (by have := HLEN.out.2; omega) (fun j hj => by
          obtain rfl : j = 0 := by omega
          rw [snoc_same]
          exact HF58.out.1) (fun j hj => by
          obtain rfl : j = 0 := by omega
          rw [snoc_same]
          exact HF58.out.2.1))
        clear k1 k2 k3 hG1 HA1 HO5 HO8 HO18 HG0
        clear c0 c1 c2 c3 c4 c5
        have c0 : w22.cell? ⟨b8, 0, none⟩ = some (.bool o.q) := cell_of_row w22 b8 0 _ _ (0, 0) HX8.out
        have c1 : w22.cell? ⟨b8, 1, none⟩ = some (.bool o.e) := cell_of_row w22 b8 1 _ _ (0, 0) HX8.out
        have c2 : w22.cell? ⟨b8, 2, none⟩ = some (.bool o.a) := cell_of_row w22 b8 2 _ _ (0, 0) HX8.out
        have c3 : w22.cell? ⟨b8, 3, none⟩ = some (.bool o.i) := cell_of_row w22 b8 3 _ _ (0, 0) HX8.out
        have c4 : w22.cell? ⟨b8, 4, none⟩ = some (.slice ap8 o.parts.length cp8) := cell_of_row w22 b8 4 _ _ (0, 0) HX8.out
        have c5 : w22.cell? ⟨b8, 5, none⟩ = some (.slice af8 o.files.length cf8) := cell_of_row w22 b8 5 _ _ (0, 0) HX8.out
        go_wp2_with (go_at_call 15; refine HA2.out.mono ?_)
        rintro r w23 ⟨rfl, k1, k2, k3, fs2, bt2, bp2, hG2⟩
        have HQ18 := Lib.hid (HP18.out.keep k1 k2)
        have HY18 := Lib.hid ((k3 _ _ HX18.out).trans HX18.out)
        have HA3 := Lib.hid (hG2.addO (by omega) (by omega) o2 ap18 _ cp18 af18 _ cf18 HQ18.out (by have := HLN2.out.1; omega) (by have := HLN2.out.2; omega) (fun j hj => by
          rcases (by omega : j = 0 ∨ j = 1) with rfl | rfl
          · rw [snoc_lt _ _ (by omega), snoc_same]; exact HFP.out.1.1
          · rw [snoc_same]; exact HFP.out.2.1) (fun j hj => by
          rcases (by omega : j = 0 ∨ j = 1) with rfl | rfl
          · rw [snoc_lt _ _ (by omega), snoc_same]; exact HFP.out.1.2
          · rw [snoc_same]; exact HFP.out.2.2))
        clear k1 k2 k3 hG2 HA2 HP8 HP18 HX8 HX18
        clear c0 c1 c2 c3 c4 c5
        have c0 : w23.cell? ⟨b18, 0, none⟩ = some (.bool o2.q) := cell_of_row w23 b18 0 _ _ (0, 0) HY18.out
        have c1 : w23.cell? ⟨b18, 1, none⟩ = some (.bool o2.e) := cell_of_row w23 b18 1 _ _ (0, 0) HY18.out
        have c2 : w23.cell? ⟨b18, 2, none⟩ = some (.bool o2.a) := cell_of_row w23 b18 2 _ _ (0, 0) HY18.out
        have c3 : w23.cell? ⟨b18, 3, none⟩ = some (.bool o2.i) := cell_of_row w23 b18 3 _ _ (0, 0) HY18.out
        have c4 : w23.cell? ⟨b18, 4, none⟩ = some (.slice ap18 o2.parts.length cp18) := cell_of_row w23 b18 4 _ _ (0, 0) HY18.out
        have c5 : w23.cell? ⟨b18, 5, none⟩ = some (.slice af18 o2.files.length cf18) := cell_of_row w23 b18 5 _ _ (0, 0) HY18.out
        go_wp2_with (go_at_call 15; refine HA3.out.mono ?_)
        rintro r w24 ⟨rfl, -, -, -, fs3, bt3, bp3, hG3⟩
        have HAP := Lib.hid (hG3.apart (by omega) (by omega) HTW.out)
        clear hG3 HA3 c0 c1 c2 c3 c4 c5
        go_wp2_with (go_at_call 16; refine HAP.out.mono ?_)
        rintro r w25 ⟨rfl, b25⟩
        have HB25 := Lib.hid b25
        clear b25 HAP
        go_wp2_with fail
        go_ret
        exact ⟨rfl, HB25.out⟩
end Go.Proofs.YtgepjjpcokbpjaaDoor
