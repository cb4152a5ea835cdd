/-
  galleyref00.CopyRows: a twin of a list of lists of bytes.
-/
import Derived.Test.YtbdgolbejoheiaaWrite
import Derived.Test.YtbdgolbejoheiaaCopy
namespace Go.Proofs.Ytbdgolbejoheiaa
open Go.RowKit

theorem own_lower {W : World} {base base2 s n : Nat} {e : TypeId} {v : Value} {xs : List Value} (h : W.ownsRow base2 e s v n xs) (hb : base ≤ base2) : W.ownsRow base e s v n xs :=
  ⟨h.1, h.2.imp_right fun ⟨g, cap, cur, ev, hg, r⟩ => ⟨g, cap, cur, ev, Nat.le_trans hb hg, r⟩⟩

/-- What CopyRows lays. -/
def Rows (W : World) (base : Nat) (v : Value) (R : List (List Int)) (vs : List Value) : Prop := W.ownsRow base 25 1 v R.length vs ∧ ∀ i, i < R.length → ∃ u, vs[i]? = some u ∧ OwnB W base u (R[i]?.getD []) ∧ IsB (R[i]?.getD []) ∧ (R[i]?.getD []).length ≤ 140737488351232
theorem Rows.rbs {W : World} {base : Nat} {v : Value} {R : List (List Int)} {vs : List Value} (h : Rows W base v R vs) (hR : R.length ≤ 5864062014805) : RBS W (fun k => base ≤ k ∧ k < W.heap.size) v R := by
  intro W' _ hk
  have hK : ∀ {e : TypeId} {s n : Nat} {v : Value} {xs : List Value}, W.ownsRow base e s v n xs → W'.ownsRow base e s v n xs := fun ho => own_keep ho fun k e => hk k (World.ownsRow.lt ho k e)
  obtain ⟨h1, h2⟩ := h
  have h1' := hK h1
  rcases h1'.2 with ⟨rfl, hn⟩ | ⟨g, cap, cur, rfl, _, hg, hc, _, _, htake⟩
  · have hR0 : R = [] := List.eq_nil_of_length_eq_zero hn
    subst hR0
    exact ⟨Option.none, 0, rfl, by simp, by simp, fun _ => rfl, .inl rfl⟩
  · refine ⟨_, cap, rfl, hR, hc, (fun e => by cases e), .inr ⟨g, 0, rfl, fun i hi => ?_⟩⟩
    obtain ⟨u, g1, g2, g3, g4⟩ := h2 i hi
    have g2' : OwnB W' base u (R[i]?.getD []) := hK g2
    obtain ⟨ad, c, rfl, q1, q2, q3⟩ := g2'.sbn g3 g4
    refine ⟨ad, _, c, ?_, q3, q1, q2⟩
    rw [Nat.zero_add, cell_of_row W' g i cur _ (0, 0) hg]
    have ht : (cur.toList.take (R.length * 1))[i]? = some (.slice ad (R[i]?.getD []).length c) := by rw [htake]; exact g1
    rw [List.getElem?_take_of_lt (by omega)] at ht
    simpa using ht

def CopyRowsPost (W : World) (R : List (List Int)) (e : Ending) (W' : World) : Prop := ∃ v vs, e = .returned v ∧ Rows W' W.heap.size v R vs ∧ Below W.heap.size W W'
/-- While it runs: the first k rows. -/
def RowsK (W : World) (base : Nat) (v : Value) (R : List (List Int)) (k : Nat) (vs : List Value) : Prop := W.ownsRow base 25 1 v k vs ∧ ∀ i, i < k → ∃ u, vs[i]? = some u ∧ OwnB W base u (R[i]?.getD []) ∧ IsB (R[i]?.getD []) ∧ (R[i]?.getD []).length ≤ 140737488351232
theorem RowsK.step {W1 W' : World} {base : Nat} {v v' u : Value} {R : List (List Int)} {k : Nat} {vs : List Value} {p : List Int} (hp : R[k]?.getD [] = p) (h : RowsK W1 base v R k vs) (hA : AppPost W1 W' base v v') (ho : W'.ownsRow base 25 1 v' (k + 1) (vs ++ [u])) (hu : OwnB W1 base u p) (hB : IsB p) (hl : p.length ≤ 140737488351232) : RowsK W' base v' R (k + 1) (vs ++ [u]) := by
  have kB : KeepT 5 W1 W' := KeepT.of_app h.1 hA neBL.symm
  have hvl : vs.length = k := by have := h.1.1; omega
  refine ⟨ho, fun i hi => ?_⟩
  by_cases hik : i < k
  · obtain ⟨x, g1, g2, g3⟩ := h.2 i hik
    exact ⟨x, by rw [List.getElem?_append_left (by omega)]; exact g1, kB.own g2, g3⟩
  · obtain rfl : i = k := by omega
    rw [hp]
    exact ⟨u, by rw [List.getElem?_append_right (by omega), hvl, Nat.sub_self]; rfl, kB.own hu, hB, hl⟩
theorem RowsK.below {W W' : World} {base : Nat} {v : Value} {R : List (List Int)} {k : Nat} {vs : List Value} (h : RowsK W base v R k vs) (hb : Below W.heap.size W W') : RowsK W' base v R k vs :=
  ⟨own_keep h.1 fun k e => hb.block k (World.ownsRow.lt h.1 k e).2, fun i hi => by
    obtain ⟨x, g1, g2, g3⟩ := h.2 i hi
    exact ⟨x, g1, g2.below hb, g3⟩⟩

set_option maxHeartbeats 1000000 in
theorem copyRows_any (W : World) (v : Value) (R : List (List Int)) (hR : RB W v R) : Calls Try.prog 8 #[v] W (CopyRowsPost W R) := by
  obtain ⟨a, c, rfl, hn, -⟩ := id hR
  have h0 : RowsK W W.heap.size (.slice none 0 0) R 0 [] := ⟨World.ownsRow_nil _ _ _ _, fun i hi => absurd hi (Nat.not_lt_zero _)⟩
  have hbw := Below.refl W.heap.size W
  go_enter Try.func8, Try.ntmps8
  go_wp2_with fail
  go_loopw [3, 4] (fun x i wr => ∃ (k : Nat) (vs : List Value), k ≤ R.length ∧ i = .int .i64 k ∧ RowsK wr W.heap.size x R k vs ∧ Below W.heap.size W wr) (fun _ i _ => R.length - (intOf i).toNat)
  case atStart => exact ⟨0, [], Nat.zero_le _, rfl, h0, hbw⟩
  case round =>
    obtain ⟨k, vs, hk, rfl, hK, hb⟩ := hrel
    clear h0 hbw
    have hsz := hb.size
    by_cases hlt : k < R.length
    · have hRr := hR.below hb
      obtain ⟨b, o, rfl, hc⟩ := hRr.read k hlt
      obtain ⟨d1, m1, cc1, h1, s1, hm1, hd1⟩ := hc k hlt
      obtain ⟨p, hp⟩ : ∃ p, R[k]?.getD [] = p := ⟨_, rfl⟩
      rw [hp] at s1
      have Hp := Lib.hid hp
      have hC := Lib.hid (copy_any wr (.slice d1 m1 cc1) p s1)
      have Hs := Lib.hid s1
      have HK := Lib.hid hK
      have HB := Lib.hid hb
      clear hRr hc hp s1 hK hb hR
      go_wp2_with fail
      refine hC.out.mono ?_
      rintro e w1 ⟨u, rfl, ho1, hb1⟩
      have hK1 := HK.out.below hb1
      have hs1 := hb1.size
      have hb2 := HB.out.trans (hb1.mono hsz)
      have hu : OwnB w1 W.heap.size u p := own_lower ho1 hsz
      obtain ⟨ad, n', c', rfl⟩ := own_slice hu
      have hown := hK1.1
      have hbs : W.heap.size ≤ w1.heap.size := by omega
      have HK1 := Lib.hid hK1
      have HB2 := Lib.hid hb2
      clear hK1 hb1 ho1 hb2
      go_wp2_with (at_builtin; refine append_ls rfl (.tmp 11) (.tmp 17) rfl W.heap.size u3 k vs (.slice ad n' c') rfl hown rfl rfl (by omega) hbs ?_)
      intro v' w2 ho2 _ hA2
      have HK2 := Lib.hid (HK1.out.step Hp.out hA2 ho2 hu Hs.out.1 (by have := Hs.out.len; omega))
      have HB3 := Lib.hid (hA2.bel _ _ HB2.out (Nat.le_refl _))
      clear hA2 ho2 hown hu
      go_wp2_with fail
      go_roundw
      case rel => exact ⟨k + 1, _, by omega, by go_num, HK2.out, HB3.out⟩
      case measure => simp [intOf]; omega
    · obtain rfl : k = R.length := by omega
      have HP : Hid (CopyRowsPost W R (.returned u3) wr) := Lib.hid ⟨_, vs, rfl, hK, hb⟩
      clear hK hb
      go_wp2_with fail
      go_ret
      exact HP.out
end Go.Proofs.Ytbdgolbejoheiaa
