/-
  galleyref00: WideSpans, SpareSpans, EqSpans.
-/
import Derived.Test.YtakimaceohfpcaaDoorArr2
import Derived.Test.YtakimaceohfpcaaDoorPieces
import Derived.BigQuiet
import Derived.Deep.DeepCutAuto
namespace Go.Proofs.YtakimaceohfpcaaDoor
open Go.RowKit

def spV (x : Sp) : VV := (.int .i64 x.1, .int .i64 x.2)
def markN (j : Nat) : VV := (.int .i64 (1048576 * 9 + (j : Int) + 1), .int .i64 (-7))
def widen (l : List Sp) : List VV := wideG markN (l.map spV)
theorem widen_len (l : List Sp) : (widen l).length = l.length + 64 := by unfold widen; rw [wideG_len, List.length_map]
theorem widen_lo (l : List Sp) (j : Nat) (h : j < l.length) : (widen l)[j]?.getD vv0 = spV (l[j]?.getD (-1, -1)) := by
  unfold widen; rw [wideG_lo _ _ _ _ (by rw [List.length_map]; exact h), List.getElem?_map, List.getElem?_eq_getElem h]; rfl
theorem widen_hi (l : List Sp) (j : Nat) (h : l.length ≤ j) (h2 : j < l.length + 64) : (widen l)[j]?.getD vv0 = markN j := by
  unfold widen; exact wideG_hi _ _ _ _ (by rw [List.length_map]; exact h) (by rw [List.length_map]; exact h2)
theorem infoSp : (Tryd.prog.info? 135).map (fun i => (i.zero, i.size, i.bytes)) = some (some (.agg #[.int .i64 0, .int .i64 0]), 2, 16) := by kernel_rfl

set_option maxHeartbeats 400000 in
theorem widen_any (w : World) (v : Value) (l : List Sp) (hb : NS w v l) (hl : l.length ≤ 2147483647) :
    Calls Tryd.prog 59 #[v] w fun e w' => e = .returned (.slice (some ⟨w.heap.size, 0, none⟩) l.length (l.length + 64)) ∧ Arr2 w' w.heap.size 135 (widen l) ∧ Below w.heap.size w w' := by
  have HNS := Lib.hid hb
  obtain ⟨-, a, c, rfl, -, -, -⟩ := hb
  have hm := fun w => made2 w 101 135 _ _ l.length _ Tryd.underlying101 infoSp hl (by omega)
  have h1 : Arr2 (w.alloc (.cells (row2 (List.replicate (l.length + 64) (.int .i64 0, .int .i64 0))).toArray 135)) w.heap.size 135 (List.replicate (l.length + 64) (.int .i64 0, .int .i64 0)) := Arr2.new _ _ _
  have hbe : Below w.heap.size w (w.alloc (.cells (row2 (List.replicate (l.length + 64) (.int .i64 0, .int .i64 0))).toArray 135)) := (Below.refl _ w).alloc (Nat.le_refl _) _
  obtain ⟨z, hz⟩ : ∃ z : List VV, List.replicate (l.length + 64) (.int .i64 0, .int .i64 0) = z := ⟨_, rfl⟩
  have Hlen : Hid (z.length = l.length + 64) := Lib.hid (by rw [← hz]; exact List.length_replicate)
  rw [hz] at h1 hbe
  simp only [hz] at hm
  clear hz
  go_enter Tryd.func59, Tryd.ntmps59
  go_wp2_with fail
  go_loopw [4] (fun i wr => ∃ (k : Nat) (m : List VV), k ≤ l.length + 64 ∧ i = .int .i64 k ∧ m.length = l.length + 64 ∧ (∀ j : Nat, j < k → m[j]?.getD vv0 = (widen l)[j]?.getD vv0) ∧
    Arr2 wr w.heap.size 135 m ∧ Below w.heap.size w wr) (fun i _ => l.length + 64 - (intOf i).toNat)
  case atStart => exact ⟨0, _, Nat.zero_le _, rfl, Hlen.out, fun j hj => by omega, h1, hbe⟩
  case round =>
    obtain ⟨k, m, hk, rfl, hml, hmj, r1, rb⟩ := hrel
    have HML := Lib.hid hml
    have HMJ := Lib.hid hmj
    clear hml hmj h1 hbe hm
    by_cases hlt : k < l.length + 64
    · obtain ⟨hc1, hc2⟩ := r1.cell k (by rw [HML.out]; exact hlt)
      generalize m[k]?.getD vv0 = mk at hc1 hc2
      obtain ⟨m1, m2⟩ := mk
      have hf1 := r1.frozen (k * 2)
      have hf2 := r1.frozen (k * 2 + 1)
      have hst : ∀ y : VV, y = (widen l)[k]?.getD vv0 → ∀ j : Nat, j < k + 1 → (m.set k y)[j]?.getD vv0 = (widen l)[j]?.getD vv0 := by
        intro y ey j hj
        rw [List.getElem?_set]
        split
        · subst_vars
          rw [if_pos (by rw [HML.out]; exact hlt)]; rfl
        · exact HMJ.out j (by omega)
      by_cases hin : k < l.length
      · obtain ⟨b, o, rfl, hcc⟩ := (HNS.out.below rb).read k hin
        obtain ⟨hck, hck2⟩ := hcc k hin
        have hst2 := hst _ (widen_lo l k hin).symm
        generalize l[k]?.getD (-1, -1) = x at hck hck2 hst2
        obtain ⟨x1, x2⟩ := x
        have Hst := Lib.hid hst2
        clear hst hst2 hcc
        go_wp2_with fail
        go_roundw
        case rel => exact ⟨k + 1, m.set k (.int .i64 x1, .int .i64 x2), by omega, by go_num, by rw [List.length_set, HML.out], Hst.out, r1.set _ _ _, (rb.setCell (by simp) _).setCell (by simp) _⟩
        case measure => simp [intOf]; omega
      · have hst2 := Lib.hid (hst _ (widen_hi l k (by omega) hlt).symm)
        have HN := Lib.hid (num9 wr k (by omega))
        clear hst
        go_wp2_with fail
        refine HN.out.mono ?_
        rintro e w' ⟨rfl, rfl⟩
        go_wp2_with fail
        go_roundw
        case rel => exact ⟨k + 1, m.set k (markN k), by omega, by go_num, by rw [List.length_set, HML.out], hst2.out, r1.set _ _ _, (rb.setCell (by simp) _).setCell (by simp) _⟩
        case measure => simp [intOf]; omega
    · have e : m = widen l := ext_ofG vv0 m (widen l) (by rw [HML.out, widen_len]) fun j hj => HMJ.out j (by rw [HML.out] at hj; omega)
      subst e
      go_wp2_with fail
      go_ret
      exact ⟨rfl, r1, rb⟩

set_option maxHeartbeats 400000 in
theorem sparen_any (w : World) (g : Nat) (l : List Sp) (hn : l.length ≤ 2147483647) (h : Arr2 w g 135 (widen l)) :
    Calls Tryd.prog 63 #[.slice (some ⟨g, 0, none⟩) l.length (l.length + 64)] w fun e w' => e = .returned (.bool true) ∧ ∃ q, w' = w.drewN q := by
  have HW := Lib.hid h
  clear h
  go_enter Tryd.func63, Tryd.ntmps63
  go_wp2_with fail
  go_loopw [4] (fun i wr => ∃ k q : Nat, l.length ≤ k ∧ k ≤ l.length + 64 ∧ i = .int .i64 k ∧ wr = w.drewN q) (fun i _ => l.length + 64 - (intOf i).toNat)
  case atStart => exact ⟨l.length, 0, Nat.le_refl _, by omega, rfl, rfl⟩
  case round =>
    obtain ⟨k, q, hk1, hk2, rfl, rfl⟩ := hrel
    by_cases hlt : k < l.length + 64
    · obtain ⟨hc, hc2⟩ := HW.out.cell k (by rw [widen_len]; exact hlt)
      rw [widen_hi l k hk1 hlt] at hc hc2
      have hc : (w.drewN q).cell? ⟨g, k * 2, none⟩ = some (.int .i64 (1048576 * 9 + (k : Int) + 1)) := hc
      have hc2 : (w.drewN q).cell? ⟨g, k * 2 + 1, none⟩ = some (.int .i64 (-7)) := hc2
      have HDD := Lib.hid (fun m => World.drewN_drewN w q m)
      generalize w.drewN q = wq at hc hc2 HDD ⊢
      have HN := Lib.hid (fun n => num9q wq k n (by omega))
      go_wp2_with fail
      go_quiet ((go_at_call 103; exact HN.out _))
      clear hc hc2
      go_wp2_with fail
      go_roundw
      case rel => exact ⟨k + 1, _, by omega, by omega, by go_num, HDD.out _⟩
      case measure => simp [intOf]; omega
    · go_wp2_with fail
      go_ret
      exact ⟨rfl, q, rfl⟩
theorem takeG_step {α : Type} (d : α) (a b : List α) (k : Nat) (h : k < a.length) (hl : a.length = b.length) (ht : a.take k = b.take k) (he : a[k]?.getD d = b[k]?.getD d) : a.take (k + 1) = b.take (k + 1) := by
  have h2 : k < b.length := by omega
  rw [List.getElem?_eq_getElem h, List.getElem?_eq_getElem h2, Option.getD_some, Option.getD_some] at he
  rw [List.take_add_one, List.take_add_one, ht, List.getElem?_eq_getElem h, List.getElem?_eq_getElem h2, he]
set_option maxHeartbeats 1000000 in
theorem eqSpans_any (w : World) (va vb : Value) (a b : List Sp) (ha : NS w va a) (hb : NS w vb b) :
    Calls Tryd.prog 62 #[va, vb] w fun e w' => e = .returned (.bool (decide (a = b))) ∧ ∃ n, w' = w.drewN n := by
  obtain ⟨hA, aa, ca, rfl, hla, -, hca⟩ := ha
  obtain ⟨hB, ab, cb, rfl, hlb, -, hcb⟩ := hb
  by_cases hl : a.length = b.length
  · by_cases h0 : a.length = 0
    · have ea : a = [] := List.eq_nil_of_length_eq_zero h0
      have eb : b = [] := List.eq_nil_of_length_eq_zero (by omega)
      subst ea eb
      clear hca hcb hl h0
      go_enter Tryd.func62, Tryd.ntmps62
      go_wp2
      go_loop [5] (fun i => i = .int .i64 0) (fun _ => 0)
      case atStart => rfl
      case round =>
        subst hrel
        go_wp2
        go_ret
        exact ⟨rfl, 0, rfl⟩
    · obtain ⟨ba, oa, rfl, hcA⟩ := hca.resolve_left (by intro e; simp [e] at h0)
      obtain ⟨bb, ob, rfl, hcB⟩ := hcb.resolve_left (by intro e; rw [e] at hl; exact h0 hl)
      clear hca hcb
      have hne : ((a.length : Int) != (b.length : Int)) = false := by rw [bne_eq_false_iff_eq]; omega
      have hl1 : a.length ≤ b.length := by omega
      have hl2 : b.length ≤ a.length := by omega
      have HL := Lib.hid hl
      have HA := Lib.hid hcA
      have HB := Lib.hid hcB
      clear hl hcA hcB hA hB
      go_enter Tryd.func62, Tryd.ntmps62
      go_wp2
      go_loopw [5] (fun i wr => ∃ k q : Nat, k ≤ a.length ∧ i = .int .i64 k ∧ a.take k = b.take k ∧ wr = w.drewN q) (fun i _ => a.length - (intOf i).toNat)
      case atStart => exact ⟨0, 0, Nat.zero_le _, rfl, rfl, rfl⟩
      case round =>
        obtain ⟨k, q, hk, rfl, ht, rfl⟩ := hrel
        have Ht := Lib.hid ht
        clear ht
        by_cases hlt : k < a.length
        · obtain ⟨h1, h1'⟩ := HA.out k hlt
          obtain ⟨h2, h2'⟩ := HB.out k (by omega)
          have hst := fun he => takeG_step (-1, -1) a b k hlt HL.out Ht.out he
          have hnd : a[k]?.getD (-1, -1) ≠ b[k]?.getD (-1, -1) → decide (a = b) = false := by
            intro hne; simp; intro e; exact hne (by rw [e])
          generalize a[k]?.getD (-1, -1) = x at h1 h1' hst hnd
          generalize b[k]?.getD (-1, -1) = y at h2 h2' hst hnd
          obtain ⟨x1, x2⟩ := x
          obtain ⟨y1, y2⟩ := y
          dsimp only at h1 h1' h2 h2'
          by_cases he : (x1, x2) = (y1, y2)
          · have Hst := Lib.hid (hst he)
            simp only [Prod.mk.injEq] at he
            obtain ⟨rfl, rfl⟩ := he
            clear hst hnd
            go_wp2
            go_quiet (fail)
            go_wp2
            go_roundw
            case rel => exact ⟨k + 1, _, by omega, by go_num, Hst.out, rfl⟩
            case measure => simp [intOf]; omega
          · have Hd := Lib.hid (hnd he)
            simp only [Prod.mk.injEq] at he
            clear hst hnd
            by_cases h12 : x1 = y1
            · subst h12
              have hb12 : (x2 == y2) = false := beq_eq_false_iff_ne.2 (fun e => he ⟨rfl, e⟩)
              clear he
              go_wp2
              go_quiet (fail)
              go_wp2
              go_ret
              exact ⟨ret_bool Hd.out.symm, _, World.drewN_drewN _ _ _⟩
            · have hb12 : (x1 == y1) = false := beq_eq_false_iff_ne.2 h12
              clear he h12
              go_wp2
              go_quiet (fail)
              go_wp2
              go_ret
              exact ⟨ret_bool Hd.out.symm, _, World.drewN_drewN _ _ _⟩
        · have hd : decide (a = b) = true := by
            have := Ht.out
            rw [List.take_of_length_le (by omega), List.take_of_length_le (by omega)] at this
            simpa using this
          have Hd := Lib.hid hd
          clear hd
          go_wp2
          go_ret
          exact ⟨ret_bool Hd.out.symm, _, rfl⟩
  · have hne : ((a.length : Int) != (b.length : Int)) = true := by rw [bne_iff_ne]; omega
    have hd : decide (a = b) = false := by
      simp; intro e; exact hl (by rw [e])
    rw [hd]
    clear hca hcb hA hB
    go_enter Tryd.func62, Tryd.ntmps62
    go_wp2
    go_ret
    exact ⟨rfl, 0, rfl⟩
end Go.Proofs.YtakimaceohfpcaaDoor
