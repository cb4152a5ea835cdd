/-
  bracket: kind, name.
-/
import Derived.Test.YthegepiafodpjaaDoorBrW
import Derived.Test.YthegepiafodpjaaDoorNamed
import Derived.Test.YthegepiafodpjaaDoorBytes2
import Derived.Laws.BytesArg
import Derived.Deep.RegionHeld3
namespace Go.Proofs.YthegepiafodpjaaDoor
open Go.RowKit

/-- A reader in a box of its own. -/
structure Rd (w0 w : World) (g : Nat) (a : Option Addr) (n c op : Nat) (l : List Mk) : Prop where
  bel : Below w0.heap.size w0 w
  hg : w0.heap.size ≤ g
  c0 : w.cell? ⟨g, 0, none⟩ = some (.slice a n c)
  c1 : w.cell? ⟨g, 1, none⟩ = some (.int .i64 (op : Int))
  sm0 : SM w0 (.slice a n c) l
  br0 : BrW w0
theorem Rd.sm {w0 w : World} {g : Nat} {a : Option Addr} {n c op : Nat} {l : List Mk} (h : Rd w0 w g a n c op l) : SM w (.slice a n c) l := h.sm0.below h.bel
theorem Rd.br {w0 w : World} {g : Nat} {a : Option Addr} {n c op : Nat} {l : List Mk} (h : Rd w0 w g a n c op l) : BrW w := h.br0.below h.bel
theorem Rd.below {w0 w w' : World} {g : Nat} {a : Option Addr} {n c op : Nat} {l : List Mk} (h : Rd w0 w g a n c op l) (hb : Below w.heap.size w w') : Rd w0 w' g a n c op l :=
  ⟨h.bel.trans (hb.mono h.bel.size), h.hg, cell_b hb h.c0, cell_b hb h.c1, h.sm0, h.br0⟩
theorem Rd.new {w : World} {a : Option Addr} {n c op : Nat} {l : List Mk} (hs : SM w (.slice a n c) l) (hw : BrW w) : Rd w (w.alloc (.cells #[.slice a n c, .int .i64 (op : Int)] 80)) w.heap.size a n c op l := by
  have hb := box1 w (.cells #[.slice a n c, .int .i64 (op : Int)] 80)
  have hn := heap_alloc_new w (.cells #[.slice a n c, .int .i64 (op : Int)] 80)
  exact ⟨hb, Nat.le_refl _, by rw [cell_of_row _ _ _ _ _ (0, 0) hn]; rfl, by rw [cell_of_row _ _ _ _ _ (0, 0) hn]; rfl, hs, hw⟩
set_option maxHeartbeats 1000000 in
set_option maxRecDepth 100000 in
theorem kind_any (w : World) (hw : BrW w) (a : Option Addr) (n c op i : Nat) (l : List Mk) (h : SM w (.slice a n c) l) (hi : i ≤ 2305843009213693952) :
    Calls Tryd.prog 78 #[rdV a n c op, .int .i64 (i : Int)] w fun e w' => e = .returned (.int .u8 (kindM l i)) ∧ Below w.heap.size w w' := by
  have HR := Lib.hid (Rd.new (op := op) h hw)
  clear h hw
  go_enter Tryd.func78, Tryd.ntmps78
  go_upto_region 1 with fail
  obtain ⟨g, hg⟩ : ∃ g, w.heap.size = g := ⟨_, rfl⟩
  rw [hg] at HR ⊢
  generalize w.alloc (.cells #[.slice a n c, .int .i64 (op : Int)] 80) = w1 at HR ⊢
  clear hg
  have c0 := HR.out.c0
  have c1 := HR.out.c1
  go_wp2_with fail
  refine (sign_any w1 a n c op i 91 l HR.out.sm).mono ?_
  rintro e w2 ⟨rfl, hb⟩
  have HR2 := Lib.hid (HR.out.below hb)
  have HK : Hid (kindM l i = if sgn l i 91 = true then if sgn l (i + 1) 58 = true then 58 else if sgn l (i + 1) 61 = true then 61 else if sgn l (i + 1) 46 = true then 46 else 0 else 0) := Lib.hid rfl
  clear c0 c1 hb HR
  cases hs : sgn l i 91 with
  | false =>
    rw [hs] at HK
    clear hs
    go_wp2_with fail
    go_ret
    exact ⟨by rw [HK.out]; rfl, HR2.out.bel⟩
  | true =>
    rw [hs] at HK
    clear hs
    obtain ⟨-, k0, k1, k2, k3, k4, k5⟩ := HR2.out.br
    go_wp2_with fail
    clear k0 k1 k2 k3 k4 k5
    go_loopw [12] (fun v wr => ∃ k : Nat, k ≤ 3 ∧ v = .int .i64 k ∧ Rd w wr g a n c op l ∧ (0 < k → sgn l (i + 1) 58 = false) ∧ (1 < k → sgn l (i + 1) 61 = false) ∧ (2 < k → sgn l (i + 1) 46 = false)) (fun v _ => 3 - (intOf v).toNat)
    case atStart => exact ⟨0, by omega, rfl, HR2.out, fun h => absurd h (by omega), fun h => absurd h (by omega), fun h => absurd h (by omega)⟩
    case round =>
      clear HR2
      obtain ⟨k, hk2, rfl, hR, g1, g2, g3⟩ := hrel
      have HG := Lib.hid (And.intro g1 (And.intro g2 g3))
      have HR := Lib.hid hR
      clear g1 g2 g3 hR
      rcases (by omega : k = 0 ∨ k = 1 ∨ k = 2 ∨ k = 3) with rfl | rfl | rfl | rfl
      · have hix := fun w a0 a1 a2 a3 a4 a5 => idxc0 w a0 a1 a2 a3 a4 a5
        have HA := Lib.hid (HR.out.below (box1 wr (.cells #[.int .u8 58, .int .u8 58] 159)))
        have c0 := HA.out.c0
        have c1 := HA.out.c1
        go_wp2_with fail
        have HF := Lib.hid (heap_alloc_new wr (.cells #[.int .u8 58, .int .u8 58] 159))
        refine (sign_any _ a n c op (i + 1) 58 l HA.out.sm).mono ?_
        rintro e w3 ⟨rfl, hb⟩
        have HR3 := Lib.hid (HA.out.below hb)
        have f0 : w3.cell? ⟨wr.heap.size, 0, none⟩ = some (.int .u8 58) := cell_b hb (by rw [cell_of_row _ _ _ _ _ (0, 0) HF.out]; rfl)
        clear c0 c1 hb HA HR HF
        cases hs : sgn l (i + 1) 58 with
        | true =>
          rw [hs] at HK
          clear hs
          go_wp2_with fail
          go_ret
          exact ⟨by rw [HK.out]; rfl, HR3.out.bel⟩
        | false =>
          have HS := Lib.hid hs
          clear hs
          go_wp2_with fail
          go_roundw
          case rel => exact ⟨1, by omega, rfl, HR3.out, fun _ => HS.out, fun h => absurd h (by omega), fun h => absurd h (by omega)⟩
          case measure => simp [intOf]
      · have hix := fun w a0 a1 a2 a3 a4 a5 => idxc1 w a0 a1 a2 a3 a4 a5
        have HA := Lib.hid (HR.out.below (box1 wr (.cells #[.int .u8 61, .int .u8 61] 159)))
        have c0 := HA.out.c0
        have c1 := HA.out.c1
        go_wp2_with fail
        have HF := Lib.hid (heap_alloc_new wr (.cells #[.int .u8 61, .int .u8 61] 159))
        refine (sign_any _ a n c op (i + 1) 61 l HA.out.sm).mono ?_
        rintro e w3 ⟨rfl, hb⟩
        have HR3 := Lib.hid (HA.out.below hb)
        have f0 : w3.cell? ⟨wr.heap.size, 0, none⟩ = some (.int .u8 61) := cell_b hb (by rw [cell_of_row _ _ _ _ _ (0, 0) HF.out]; rfl)
        clear c0 c1 hb HA HR HF
        cases hs : sgn l (i + 1) 61 with
        | true =>
          rw [HG.out.1 (by omega), hs] at HK
          clear hs
          go_wp2_with fail
          go_ret
          exact ⟨by rw [HK.out]; rfl, HR3.out.bel⟩
        | false =>
          have HS := Lib.hid hs
          clear hs
          go_wp2_with fail
          go_roundw
          case rel => exact ⟨2, by omega, rfl, HR3.out, fun _ => HG.out.1 (by omega), fun _ => HS.out, fun h => absurd h (by omega)⟩
          case measure => simp [intOf]
      · have hix := fun w a0 a1 a2 a3 a4 a5 => idxc2 w a0 a1 a2 a3 a4 a5
        have HA := Lib.hid (HR.out.below (box1 wr (.cells #[.int .u8 46, .int .u8 46] 159)))
        have c0 := HA.out.c0
        have c1 := HA.out.c1
        go_wp2_with fail
        have HF := Lib.hid (heap_alloc_new wr (.cells #[.int .u8 46, .int .u8 46] 159))
        refine (sign_any _ a n c op (i + 1) 46 l HA.out.sm).mono ?_
        rintro e w3 ⟨rfl, hb⟩
        have HR3 := Lib.hid (HA.out.below hb)
        have f0 : w3.cell? ⟨wr.heap.size, 0, none⟩ = some (.int .u8 46) := cell_b hb (by rw [cell_of_row _ _ _ _ _ (0, 0) HF.out]; rfl)
        clear c0 c1 hb HA HR HF
        cases hs : sgn l (i + 1) 46 with
        | true =>
          rw [HG.out.1 (by omega), HG.out.2.1 (by omega), hs] at HK
          clear hs
          go_wp2_with fail
          go_ret
          exact ⟨by rw [HK.out]; rfl, HR3.out.bel⟩
        | false =>
          have HS := Lib.hid hs
          clear hs
          go_wp2_with fail
          go_roundw
          case rel => exact ⟨3, by omega, rfl, HR3.out, fun _ => HG.out.1 (by omega), fun _ => HG.out.2.1 (by omega), fun _ => HS.out⟩
          case measure => simp [intOf]
      · have hB := Lib.hid HR.out.bel
        rw [HG.out.1 (by omega), HG.out.2.1 (by omega), HG.out.2.2 (by omega)] at HK
        clear HR HG
        go_wp2_with fail
        go_ret
        exact ⟨by rw [HK.out]; rfl, hB.out⟩
end Go.Proofs.YthegepiafodpjaaDoor
