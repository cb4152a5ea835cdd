/-
  QuoteReads: its walk.
-/
import Derived.Test.YtboikhalfffioaaDoorJl
import Derived.Test.YtboikhalfffioaaDoorEq
import Derived.Test.YtboikhalfffioaaDoorBag4
namespace Go.Proofs.YtboikhalfffioaaDoor
open Go.RowKit

def pick2 {α : Type} (a b : α) : Nat → α
  | 0 => a
  | _ => b
theorem lt2 {k : Nat} (h : k < 2) : k = 0 ∨ k = 1 := by omega
theorem bags2 {w : World} {base : Nat} {u0 u1 : Value} {l0 l1 : List Int} (h0 : OwnB w base u0 l0) (h1 : OwnB w base u1 l1) (a01 : Apart u0 u1) :
    Bags w base 5 1 2 (pick2 u0 u1) (pick2 l0.length l1.length) (pick2 (l0.map (Value.int .u8)) (l1.map (Value.int .u8))) := by
  refine ⟨fun k hk => ?_, fun j k hj hk hne => ?_⟩
  · rcases lt2 hk with rfl | rfl
    · exact h0
    · exact h1
  · rcases lt2 hj with rfl | rfl <;> rcases lt2 hk with rfl | rfl <;> first
      | exact absurd rfl hne
      | exact a01
      | exact a01.symm
theorem first2 (a b : Value) : firstN (pick2 a b) 2 = [a, b] := rfl
/-- A list stays where its block stays. -/
theorem own_kept {w w' : World} {base : Nat} {v : Value} {l : List Int} (h : OwnB w base v l) (hk : ∀ k, v.ownBlock = some k → w'.heap[k]? = w.heap[k]?) : OwnB w' base v l := by
  refine ⟨h.1, h.2.imp_right fun ⟨g, cap, cur, e, hg, hc, r⟩ => ⟨g, cap, cur, e, hg, ?_, r⟩⟩
  subst e
  rw [hk g rfl]
  exact hc
theorem ans_len (s : List UInt8) : (ansL s).length ≤ s.length := by
  have e := read_guess s
  unfold ansL
  rw [e]
  split
  · exact guess_len s
  · simp
/-- quote.Unshow, in one form. -/
theorem unshowA (w : World) (hw : W2 w) (s : ByteArray) (hb : s.size ≤ 2147483647) : Calls Tryd.prog 10 #[.string s] w (AnsPost s.data.toList w) := by
  obtain ⟨b, her⟩ := hw.er
  exact (unshow_any w b her s (by omega)).mono fun _ _ h => ans_of h
/-- What is held: what was wanted, two answers. -/
structure Held3 (w W : World) (vw v1 v2 : Value) (X : List Int) : Prop where
  ow : OwnB W w.heap.size vw X
  o1 : OwnB W w.heap.size v1 X
  o2 : OwnB W w.heap.size v2 X
  bel : Below w.heap.size w W
  w1 : Apart v1 vw
  w2 : Apart v2 vw
  a12 : Apart v1 v2
theorem Held3.below {w W W' : World} {vw v1 v2 : Value} {X : List Int} (h : Held3 w W vw v1 v2 X) (hb : Below W.heap.size W W') : Held3 w W' vw v1 v2 X :=
  { h with ow := h.ow.below hb, o1 := h.o1.below hb, o2 := h.o2.below hb, bel := h.bel.trans (hb.mono h.bel.size) }
theorem Held3.keepT {w W W' : World} {vw v1 v2 : Value} {X : List Int} (h : Held3 w W vw v1 v2 X) (hk : KeepT 5 W W') (hb : Below w.heap.size w W') : Held3 w W' vw v1 v2 X :=
  { h with ow := hk.own h.ow, o1 := hk.own h.o1, o2 := hk.own h.o2, bel := hb }
def noBag : Array Value := #[.slice none 0 0, .slice none 0 0, .slice none 0 0, .slice none 0 0, .slice none 0 0, .slice none 0 0, .slice none 0 0, .slice none 0 0, .slice none 0 0, .slice none 0 0, .slice none 0 0, .slice none 0 0, .slice none 0 0, .slice none 0 0, .slice none 0 0, .slice none 0 0, .slice none 0 0, .slice none 0 0, .slice none 0 0]

set_option maxHeartbeats 4000000 in
set_option maxRecDepth 100000 in
theorem reads_any (w : World) (hw : W2 w) (s : ByteArray) : Calls Tryd.prog 3 #[.string s] w fun r w' => r = .returned (.bool true) ∧ Below w.heap.size w w' := by
  have HW := Lib.hid hw
  have HL := Lib.hid (long_nat w s.size)
  clear hw
  go_enter Tryd.func3, Tryd.ntmps3
  by_cases hlo : 2147483647 < s.size
  · rw [decide_eq_true hlo] at HL
    go_wp2_with (go_at_call 9; refine HL.out.mono ?_)
    rintro e w1 ⟨rfl, rfl⟩
    go_wp2_with fail
    go_ret
    exact ⟨rfl, Below.refl _ _⟩
  · rw [decide_eq_false hlo] at HL
    have hn : s.size ≤ 2147483647 := by omega
    go_wp2_with (go_at_call 9; refine HL.out.mono ?_)
    rintro e w1 ⟨rfl, rfl⟩
    have hal := ans_len s.data.toList
    rw [dataL] at hal
    have HU : Hid (∀ w1, Below w.heap.size w w1 → Calls Tryd.prog 10 #[.string s] w1 (AnsPost s.data.toList w1)) := Lib.hid fun w1 hb => unshowA w1 (HW.out.below hb) s hn
    have HR : Hid (∀ w1, Calls Tryd.prog 11 #[.string s] w1 (AnsPost s.data.toList w1)) := Lib.hid fun w1 => refUnshow_any w1 s (by omega)
    unfold AnsPost at HU HR
    generalize ansL s.data.toList = X at hal HU HR
    generalize ansT s.data.toList = t at HU HR
    have htt : (t != t) = false := by simp
    have HIX := Lib.hid (bI_isB X)
    have HLX : Hid ((bI X).length ≤ 2147483647) := Lib.hid (by rw [bI_len]; omega)
    generalize bI X = Y at HU HR HIX HLX
    clear hal hlo HL
    go_wp2_with (go_at_call 10; refine (HU.out w (Below.refl _ _)).mono ?_)
    rintro e w1 ⟨v1, rfl, o1, b1⟩
    have HB1 := Lib.hid b1
    have HO1 := Lib.hid o1
    clear o1 b1
    go_wp2_with (go_at_call 10; refine (HU.out w1 HB1.out).mono ?_)
    rintro e w2 ⟨v2, rfl, o2, b2⟩
    have HB2 := Lib.hid (HB1.out.trans (b2.mono HB1.out.size))
    have HO12 := Lib.hid (HO1.out.below b2)
    have HA12 := Lib.hid (apart_lt o2 (HO1.out.top (Nat.le_refl _)))
    have HO2 := Lib.hid (o2.mono HB1.out.size)
    clear o2 b2
    go_wp2_with (go_at_call 11; refine (HR.out w2).mono ?_)
    rintro e w3 ⟨vw, rfl, ow, b3⟩
    have HH : Hid (Held3 w w3 vw v1 v2 Y) := Lib.hid
      ⟨ow.mono HB2.out.size, HO12.out.below b3, HO2.out.below b3, HB2.out.trans (b3.mono HB2.out.size), apart_lt ow (HO12.out.top (Nat.le_refl _)), apart_lt ow (HO2.out.top (Nat.le_refl _)), HA12.out⟩
    clear ow b3 HO1 HO12 HO2 HA12 HB1 HB2 HR
    obtain ⟨aw, cw, rfl⟩ := HH.out.ow.shape
    obtain ⟨a1, c1, rfl⟩ := HH.out.o1.shape
    obtain ⟨a2, c2, rfl⟩ := HH.out.o2.shape
    have heq1 := eqBytes_any w3 _ _ Y Y (HH.out.o1.sb HIX.out (by have := HLX.out; omega)) (HH.out.ow.sb HIX.out (by have := HLX.out; omega))
    rw [decide_eq_true rfl] at heq1
    have HEQ1 := Lib.hid heq1
    clear heq1
    obtain ⟨xn, hxn⟩ : ∃ k, Y.length = k := ⟨_, rfl⟩
    have HXN := Lib.hid hxn
    rw [hxn] at HH HEQ1 ⊢
    clear hxn
    go_upto_region 6 with fail
    go_wp2_with (go_at_call 12; refine HEQ1.out.mono ?_)
    rintro e w4 ⟨rfl, q, rfl⟩
    have HH4 := Lib.hid (HH.out.below (below_drewN (Below.refl _ _) q))
    generalize w3.drewN q = w4 at HH4 ⊢
    clear HH HEQ1
    have heq2 := eqBytes_any w4 _ _ Y Y (HH4.out.o2.sb HIX.out (by have := HLX.out; omega)) (HH4.out.ow.sb HIX.out (by have := HLX.out; omega))
    rw [decide_eq_true rfl] at heq2
    have HEQ2 := Lib.hid heq2
    clear heq2
    go_wp2_with (go_at_call 12; refine HEQ2.out.mono ?_)
    rintro e w5 ⟨rfl, q2, rfl⟩
    have HH5 := Lib.hid (HH4.out.below (below_drewN (Below.refl _ _) q2))
    generalize w4.drewN q2 = w5 at HH5 ⊢
    clear HH4 HEQ2
    have HB6 := Lib.hid ((Below.refl w5.heap.size w5).alloc (Nat.le_refl _) (.cells noBag 48))
    have HG6 : Hid (BagAt (w5.alloc (.cells noBag 48)) w5.heap.size (.slice none 0 0 :: noneB)) := Lib.hid (BagAt.new w5)
    have HH6 := Lib.hid (HH5.out.below HB6.out)
    have HG5 : Hid (w.heap.size ≤ w5.heap.size) := Lib.hid HH5.out.bel.size
    unfold noBag at HB6 HG6 HH6
    clear HH5
    go_upto_region 9 with fail
    generalize w5.alloc (.cells #[.slice none 0 0, .slice none 0 0, .slice none 0 0, .slice none 0 0, .slice none 0 0, .slice none 0 0, .slice none 0 0, .slice none 0 0, .slice none 0 0, .slice none 0 0, .slice none 0 0, .slice none 0 0, .slice none 0 0, .slice none 0 0, .slice none 0 0, .slice none 0 0, .slice none 0 0, .slice none 0 0, .slice none 0 0] 48) = w6 at HB6 HG6 HH6 ⊢
    generalize w5.heap.size = bg at HB6 HG6 HG5 ⊢
    have HAD1 := Lib.hid (addBytes_any w6 w.heap.size bg _ [] noneB a1 xn c1 HG6.out (World.ownsRow_nil _ _ _ _) (by decide) HH6.out.bel.size)
    clear HB6
    go_wp2_with (go_at_call 13; refine HAD1.out.mono ?_)
    rintro e w7 ⟨rfl, bv1, hA⟩
    have HH7 := Lib.hid (HH6.out.keepT hA.keep (hA.bel _ _ HH6.out.bel (Nat.le_refl _) HG5.out))
    have HAD2 := Lib.hid (addBytes_any w7 w.heap.size bg bv1 [.slice a1 xn c1] noneB a2 xn c2 hA.bag hA.own (by simp) HH7.out.bel.size)
    clear hA HAD1 HH6 HG6
    go_wp2_with (go_at_call 13; refine HAD2.out.mono ?_)
    rintro e w8 ⟨rfl, bv2, hA⟩
    have HH8 := Lib.hid (HH7.out.keepT hA.keep (hA.bel _ _ HH7.out.bel (Nat.le_refl _) HG5.out))
    have HAP := Lib.hid (apart_T (fun k => (Value.slice aw xn cw).ownBlock = some k) w8 w.heap.size bg 2 bv2 (pick2 _ _) _ _ hA.bag (by rw [first2]; exact hA.own) (by decide) (bags2 HH8.out.o1 HH8.out.o2 HH8.out.a12) (fun k hk => by
        rcases lt2 hk with rfl | rfl
        · show Y.length ≤ _; have := HLX.out; omega
        · show Y.length ≤ _; have := HLX.out; omega) HH8.out.bel.size (fun k hk => (World.ownsRow.lt HH8.out.ow k hk).2) (fun j hj k hk e => by
        rcases lt2 hj with rfl | rfl
        · exact HH8.out.w1 k e hk
        · exact HH8.out.w2 k e hk))
    clear hA HAD2 HH7
    go_wp2_with (go_at_call 14; refine HAP.out.mono ?_)
    rintro e w9 ⟨rfl, hF⟩
    have HB9 : Hid (Below w.heap.size w w9) := Lib.hid (hF.bel _ _ HH8.out.bel (Nat.le_refl _))
    have HOW : Hid (OwnB w9 w.heap.size (.slice aw xn cw) Y) := Lib.hid (own_kept HH8.out.ow fun k hk => hF.kept k hk)
    clear hF HAP HH8
    go_wp2_with (go_at_call 10; refine (HU.out w9 HB9.out).mono ?_)
    rintro e w10 ⟨v3, rfl, o3, b10⟩
    have HB10 := Lib.hid (HB9.out.trans (b10.mono HB9.out.size))
    have HOW2 := Lib.hid (HOW.out.below b10)
    have HO3 := Lib.hid o3
    clear o3 b10 HOW HU
    have htt2 : (t == t) = true := by simp
    have heq3 := eqBytes_any w10 _ _ Y Y (HO3.out.sb HIX.out (by have := HLX.out; omega)) (HOW2.out.sb HIX.out (by have := HLX.out; omega))
    rw [decide_eq_true rfl] at heq3
    have HEQ3 := Lib.hid heq3
    clear heq3
    go_upto_region 14 with fail
    go_wp2_with (go_at_call 12; refine HEQ3.out.mono ?_)
    rintro e w11 ⟨rfl, q3, rfl⟩
    have HB11 := Lib.hid (below_drewN HB10.out q3)
    have HWK := Lib.hid (works_any (w10.drewN q3) (HW.out.below HB11.out))
    generalize w10.drewN q3 = w11 at HB11 HWK ⊢
    clear HEQ3
    go_wp2_with (go_at_call 15; refine HWK.out.mono ?_)
    rintro e w12 ⟨rfl, b12⟩
    have HB12 := Lib.hid (HB11.out.trans (b12.mono HB11.out.size))
    clear b12
    go_wp2_with fail
    go_ret
    exact ⟨rfl, HB12.out⟩
end Go.Proofs.YtboikhalfffioaaDoor
