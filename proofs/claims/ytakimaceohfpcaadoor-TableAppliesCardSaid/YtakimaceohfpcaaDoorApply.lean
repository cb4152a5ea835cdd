/-
  table.Apply: what bytes become by a table.
-/
import Derived.Test.YtakimaceohfpcaaDoorStay
namespace Go.Proofs.YtakimaceohfpcaaDoor
open Go.RowKit

/-- What the bytes b become by the table t. -/
def app (t b : List Int) : List Int := b.map fun x => t[x.toNat]?.getD 0
theorem app_len (t b : List Int) : (app t b).length = b.length := List.length_map _
theorem app_get (t b : List Int) (j : Nat) (hj : j < b.length) : (app t b)[j]?.getD 0 = t[(b[j]?.getD 0).toNat]?.getD 0 := by simp [app, hj]
theorem app_isB (t b : List Int) (h : IsB t) : IsB (app t b) := by
  intro i
  by_cases hi : i < b.length
  · rw [app_get t b i hi]; exact h _
  · simp [app, hi]

set_option maxHeartbeats 400000 in
set_option maxRecDepth 100000 in
theorem apply_any (w : World) (g : Nat) (T : TypeId) (t b : List Int) (vb : Value) (ht : Arr w g T t) (htl : t.length = 256) (hb : SB w vb b) :
    Calls Tryd.prog 31 #[.pointer (some ⟨g, 0, none⟩), vb] w fun e w' =>
      e = .returned (.slice (some ⟨w.heap.size, 0, none⟩) b.length b.length) ∧ Arr w' w.heap.size 5 (app t b) ∧ Below w.heap.size w w' := by
  obtain ⟨hB, ab, cb, rfl, hlb, hcb⟩ := hb
  have hm := fun w => madeB w b.length hlb
  have Hlen := Lib.hid (List.length_replicate (n := b.length) (a := (0 : Int)))
  have h1 : Arr (w.alloc (.cells (row (List.replicate b.length 0)) 5)) w.heap.size 5 (List.replicate b.length 0) := Arr.new _ _ _
  have hbe : Below w.heap.size w (w.alloc (.cells (row (List.replicate b.length 0)) 5)) := (Below.refl _ w).alloc (Nat.le_refl _) _
  have HT := Lib.hid htl
  have HCB := Lib.hid hcb
  have hgl := ht.lt
  clear htl hcb
  go_enter Tryd.func31, Tryd.ntmps31
  go_wp2
  go_loopw [15] (fun i wr => ∃ (k : Nat) (l : List Int), k ≤ b.length ∧ i = .int .i64 k ∧ l.length = b.length ∧ (∀ j : Nat, j < k → l[j]?.getD 0 = t[(b[j]?.getD 0).toNat]?.getD 0) ∧
    Arr wr w.heap.size 5 l ∧ Below w.heap.size w wr) (fun i _ => b.length - (intOf i).toNat)
  case atStart => exact ⟨0, _, Nat.zero_le _, rfl, Hlen.out, fun j hj => by omega, h1, hbe⟩
  case round =>
    obtain ⟨k, l, hk, rfl, hll, hlj, ha1, hbl⟩ := hrel
    have HLL := Lib.hid hll
    have HLJ := Lib.hid hlj
    clear hll hlj h1 hbe
    by_cases hlt : k < b.length
    · obtain ⟨bb, ob, rfl, hc⟩ := HCB.out.resolve_left (by intro e; rw [e] at hlt; exact absurd hlt (Nat.not_lt_zero _))
      have hck := hc k hlt
      have hcw : wr.cell? ⟨bb, ob + k, none⟩ = some (.int .u8 (b[k]?.getD 0)) := by
        rw [hbl.cell (World.block_lt_of_cell? w _ hck)]; exact hck
      clear hc hck
      have hbd := hB k
      have htc := (ht.below hbl hgl).cell (b[k]?.getD 0).toNat (by rw [HT.out]; omega)
      have hst : ∀ x y : Int, x = b[k]?.getD 0 → y = t[x.toNat]?.getD 0 → ∀ j : Nat, j < k + 1 → (l.set k y)[j]?.getD 0 = t[(b[j]?.getD 0).toNat]?.getD 0 := by
        intro x y ex ey j hj
        rw [List.getElem?_set]
        split
        · subst_vars
          rw [if_pos (by rw [HLL.out]; exact hlt)]; rfl
        · exact HLJ.out j (by omega)
      have hst2 := hst _ _ rfl rfl
      clear hst
      generalize b[k]?.getD 0 = x at hcw hbd htc hst2
      generalize t[x.toNat]?.getD 0 = y at htc hst2
      have Hst := Lib.hid hst2
      obtain ⟨hx0, hx1⟩ := hbd
      have hc := ha1.cell k (by rw [HLL.out]; exact hlt)
      have hf := ha1.frozen k
      clear hst2
      go_wp2
      go_roundw
      case rel => exact ⟨k + 1, l.set k y, by omega, by go_num, by rw [List.length_set, HLL.out], Hst.out, ha1.set _ _, hbl.setCell (by simp) _⟩
      case measure => simp [intOf]; omega
    · have e : l = app t b := ext_of l (app t b) (by rw [HLL.out, app_len]) fun j hj => by
        have hj' : j < b.length := by rw [HLL.out] at hj; exact hj
        rw [app_get t b j hj']
        exact HLJ.out j (by omega)
      subst e
      go_wp2
      go_ret
      exact ⟨rfl, ha1, hbl⟩

theorem app_iden (t : List Int) (h : t.length = 256) : app t iden = t :=
  ext_of _ _ (by rw [app_len, iden_len, h]) fun j hj => by
    rw [app_len, iden_len] at hj
    rw [app_get t iden j (by rw [iden_len]; exact hj), iden_get j hj]
    rfl
theorem app_app (u t b : List Int) (ht : t.length = 256) (hb : IsB b) : app (app u t) b = app u (app t b) :=
  ext_of _ _ (by rw [app_len, app_len, app_len]) fun j hj => by
    rw [app_len] at hj
    rw [app_get _ b j hj, app_get u (app t b) j (by rw [app_len]; exact hj), app_get t b j hj]
    have := hb j
    rw [app_get u t _ (by rw [ht]; omega)]

/-- The same, in words on what is read. -/
theorem apply_n (w : World) (g : Nat) (T : TypeId) (t b : List Int) (vb : Value) (n : Nat) (ht : Arr w g T t) (htl : t.length = 256) (hT : IsB (app t b)) (hb : SB w vb b) (hn : b.length = n) :
    Calls Tryd.prog 31 #[.pointer (some ⟨g, 0, none⟩), vb] w fun e w' =>
      e = .returned (.slice (some ⟨w.heap.size, 0, none⟩) n n) ∧ SB w' (.slice (some ⟨w.heap.size, 0, none⟩) n n) (app t b) ∧ Below w.heap.size w w' := by
  subst hn
  refine (apply_any w g T t b vb ht htl hb).mono fun e w' ⟨he, ha, hw⟩ => ⟨he, ?_, hw⟩
  obtain ⟨_, _, _, _, hl, _⟩ := hb
  have := ha.sb hT (by rw [app_len]; exact hl) b.length
  rwa [app_len] at this

/-! ### A list of bytes that the call itself makes -/

/-- The first bytes. -/
def bytesTo (k : Nat) : List Int := (List.range k).map Int.ofNat
theorem bytesTo_len (k : Nat) : (bytesTo k).length = k := by unfold bytesTo; rw [List.length_map, List.length_range]
theorem bytesTo_succ (k : Nat) : bytesTo (k + 1) = bytesTo k ++ [(k : Int)] := by
  unfold bytesTo
  rw [List.range_succ, List.map_append]
  rfl
theorem bytesTo_all : bytesTo 256 = iden := rfl
theorem iden_isB : IsB iden := by
  intro i
  by_cases hi : i < 256
  · rw [iden_get i hi]; omega
  · have : iden[i]? = none := List.getElem?_eq_none (by rw [iden_len]; omega)
    rw [this]; simp
end Go.Proofs.YtakimaceohfpcaaDoor
