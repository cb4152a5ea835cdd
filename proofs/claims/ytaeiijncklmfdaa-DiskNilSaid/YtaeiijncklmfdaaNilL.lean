/-
  galleylaw03.DiskNil: a nil disk, and a plain one. (Written by gen_dknil.py.)
-/
import Derived.Test.YtaeiijncklmfdaaDkL
import Derived.Test.YtaeiijncklmfdaaDkNn
import Derived.BigQuiet
namespace Go.Proofs.Ytaeiijncklmfdaa
open Go.RowKit

theorem nod_zero (w : World) : NoD (w.alloc (.cells zeroDk 71)) (.pointer (some ⟨w.heap.size, 0, none⟩)) := .inr ⟨_, rfl, heap_alloc_new w _⟩
set_option maxRecDepth 100000 in
set_option maxHeartbeats 4000000 in
theorem nil3_walk (W : World) (k : ByteArray) (b l : Value) : Calls Try.prog 7 #[.string k, b, l] W fun e w' => e = .returned (.bool true) ∧ Below W.heap.size W w' := by
  go_enter Try.func7, Try.ntmps7
  go_wp2_with fail
  go_loopw [8] (fun x wr => Below W.heap.size W wr ∧ ∃ n : Nat, x = .int .i64 n ∧ n ≤ 2) (fun x _ => 2 - (intOf x).toNat)
  case atStart => exact ⟨Below.refl _ _, 0, rfl, by omega⟩
  case round =>
    obtain ⟨hb0, n, rfl, hn⟩ := hrel
    have B0 := Lib.hid hb0
    clear hb0
    by_cases h2 : n = 2
    · subst h2
      go_wp2_with fail
      refine (lives3_any wr).mono ?_
      rintro e w2 ⟨rfl, hb⟩
      have B1 := Lib.hid (B0.out.trans (hb.mono B0.out.size))
      clear hb
      go_wp2_with fail
      go_ret
      exact ⟨rfl, B1.out⟩
    · by_cases h1 : n = 1
      · subst h1
        have B0' := B0
        clear B0
        have B0 := Lib.hid (B0'.out.alloc B0'.out.size (.cells zeroDk 71))
        unfold zeroDk at B0
        have ND0 := Lib.hid (nod_zero wr)
        go_wp2_with fail
        refine (plan_no _ _ ND0.out l).mono ?_
        rintro e w1 ⟨rfl, hb⟩
        have ND1 := Lib.hid (ND0.out.below hb)
        have B1 := Lib.hid (B0.out.trans (hb.mono B0.out.size))
        clear hb
        go_wp2_with fail
        refine (make_no _ _ ND1.out k).mono ?_
        rintro e w2 ⟨rfl, hb⟩
        have ND2 := Lib.hid (ND1.out.below hb)
        have B2 := Lib.hid (B1.out.trans (hb.mono B1.out.size))
        clear hb
        go_wp2_with fail
        refine (append_no _ _ ND2.out k b).mono ?_
        rintro e w3 ⟨rfl, hb⟩
        have ND3 := Lib.hid (ND2.out.below hb)
        have B3 := Lib.hid (B2.out.trans (hb.mono B2.out.size))
        clear hb
        go_wp2_with fail
        refine (sync_no _ _ ND3.out k).mono ?_
        rintro e w4 ⟨rfl, hb⟩
        have ND4 := Lib.hid (ND3.out.below hb)
        have B4 := Lib.hid (B3.out.trans (hb.mono B3.out.size))
        clear hb
        go_wp2_with fail
        refine (rename_no _ _ ND4.out k k).mono ?_
        rintro e w5 ⟨rfl, hb⟩
        have ND5 := Lib.hid (ND4.out.below hb)
        have B5 := Lib.hid (B4.out.trans (hb.mono B4.out.size))
        clear hb
        go_wp2_with fail
        refine (remove_no _ _ ND5.out k).mono ?_
        rintro e w6 ⟨rfl, hb⟩
        have ND6 := Lib.hid (ND5.out.below hb)
        have B6 := Lib.hid (B5.out.trans (hb.mono B5.out.size))
        clear hb
        go_wp2_with fail
        refine (syncDir_no _ _ ND6.out).mono ?_
        rintro e w7 ⟨rfl, hb⟩
        have ND7 := Lib.hid (ND6.out.below hb)
        have B7 := Lib.hid (B6.out.trans (hb.mono B6.out.size))
        clear hb
        go_wp2_with fail
        refine (spoil_no _ _ ND7.out k _).mono ?_
        rintro e w8 ⟨rfl, hb⟩
        have ND8 := Lib.hid (ND7.out.below hb)
        have B8 := Lib.hid (B7.out.trans (hb.mono B7.out.size))
        clear hb
        go_wp2_with fail
        generalize hWe : w8.alloc (.cells #[.int .i64 1, .int .i64 1, .int .i64 1, .int .i64 1, .int .i64 1, .int .i64 1, .int .i64 1, .int .i64 1] 31) = we
        have hba : Below w8.heap.size w8 we := by rw [← hWe]; exact (Below.refl _ _).alloc (Nat.le_refl _) _
        have hce : ∀ q : Nat, q < 8 → we.cell? ⟨w8.heap.size, q, none⟩ = some (.int .i64 1) := by
          intro q hq
          rw [← hWe, cell_of_row _ _ q _ _ _ (heap_alloc_new _ _)]
          match q, hq with
          | 0, _ => rfl
          | 1, _ => rfl
          | 2, _ => rfl
          | 3, _ => rfl
          | 4, _ => rfl
          | 5, _ => rfl
          | 6, _ => rfl
          | 7, _ => rfl
        have ND9 := Lib.hid (ND8.out.below hba)
        have B9 := Lib.hid (B8.out.trans (hba.mono B8.out.size))
        clear hWe hba
        go_loopw [11] (fun x wr => we = wr ∧ ∃ q : Nat, x = .int .i64 q ∧ q ≤ 8) (fun x _ => 8 - (intOf x).toNat)
        case atStart => exact ⟨rfl, 0, rfl, by omega⟩
        case round =>
          obtain ⟨rfl, q, rfl, hq⟩ := hrel
          by_cases hq8 : q = 8
          · subst hq8
            go_wp2_with fail
            refine (read_no _ _ ND9.out k).mono ?_
            rintro e w10 ⟨rfl, hb⟩
            have ND10 := Lib.hid (ND9.out.below hb)
            have B10 := Lib.hid (B9.out.trans (hb.mono B9.out.size))
            clear hb
            go_wp2_with fail
            refine (off_no _ _ ND10.out).mono ?_
            rintro e w11 ⟨rfl, hb⟩
            have ND11 := Lib.hid (ND10.out.below hb)
            have B11 := Lib.hid (B10.out.trans (hb.mono B10.out.size))
            clear hb
            go_wp2_with fail
            have hal := (Below.refl w11.heap.size w11).alloc (Nat.le_refl _) (.cells #[.int .i64 1] 3)
            have ND11a := Lib.hid (ND11.out.below hal)
            have B11a := Lib.hid (B11.out.trans (hal.mono B11.out.size))
            clear hal
            refine (start_no _ _ ND11a.out _ _).mono ?_
            rintro e w12 ⟨rfl, hb⟩
            have ND12 := Lib.hid (ND11a.out.below hb)
            have B12 := Lib.hid (B11a.out.trans (hb.mono B11a.out.size))
            clear hb
            go_wp2_with fail
            refine (names_no _ _ ND12.out).mono ?_
            rintro e w13 ⟨rfl, hb⟩
            have ND13 := Lib.hid (ND12.out.below hb)
            have B13 := Lib.hid (B12.out.trans (hb.mono B12.out.size))
            clear hb
            go_wp2_with fail
            refine (files_no _ _ ND13.out).mono ?_
            rintro e w14 ⟨rfl, hb⟩
            have ND14 := Lib.hid (ND13.out.below hb)
            have B14 := Lib.hid (B13.out.trans (hb.mono B13.out.size))
            clear hb
            go_wp2_with fail
            refine (power_no _ _ ND14.out).mono ?_
            rintro e w15 ⟨rfl, hb⟩
            have ND15 := Lib.hid (ND14.out.below hb)
            have B15 := Lib.hid (B14.out.trans (hb.mono B14.out.size))
            clear hb
            go_wp2_with fail
            refine (pending_no _ _ ND15.out).mono ?_
            rintro e w16 ⟨rfl, hb⟩
            have ND16 := Lib.hid (ND15.out.below hb)
            have B16 := Lib.hid (B15.out.trans (hb.mono B15.out.size))
            clear hb
            go_wp2_with fail
            refine (done_no _ _ ND16.out).mono ?_
            rintro e w17 ⟨rfl, hb⟩
            have ND17 := Lib.hid (ND16.out.below hb)
            have B17 := Lib.hid (B16.out.trans (hb.mono B16.out.size))
            clear hb
            go_wp2_with fail
            go_roundw
            case rel => exact ⟨B17.out, 1 + 1, by simp, by omega⟩
            case measure => simp [intOf]
          · have hqd : decide ((q : Int) < 8) = true := by simp; omega
            have hc := hce q (by omega)
            go_wp2_with fail
            go_roundw
            case rel => exact ⟨trivial, q + 1, by simp, by omega⟩
            case measure => simp [intOf]; omega
      · have h0 : n = 0 := by omega
        subst h0
        have ND0 := Lib.hid (show NoD wr (.pointer none) from .inl rfl)
        go_wp2_with fail
        refine (plan_no _ _ ND0.out l).mono ?_
        rintro e w1 ⟨rfl, hb⟩
        have ND1 := Lib.hid (ND0.out.below hb)
        have B1 := Lib.hid (B0.out.trans (hb.mono B0.out.size))
        clear hb
        go_wp2_with fail
        refine (make_no _ _ ND1.out k).mono ?_
        rintro e w2 ⟨rfl, hb⟩
        have ND2 := Lib.hid (ND1.out.below hb)
        have B2 := Lib.hid (B1.out.trans (hb.mono B1.out.size))
        clear hb
        go_wp2_with fail
        refine (append_no _ _ ND2.out k b).mono ?_
        rintro e w3 ⟨rfl, hb⟩
        have ND3 := Lib.hid (ND2.out.below hb)
        have B3 := Lib.hid (B2.out.trans (hb.mono B2.out.size))
        clear hb
        go_wp2_with fail
        refine (sync_no _ _ ND3.out k).mono ?_
        rintro e w4 ⟨rfl, hb⟩
        have ND4 := Lib.hid (ND3.out.below hb)
        have B4 := Lib.hid (B3.out.trans (hb.mono B3.out.size))
        clear hb
        go_wp2_with fail
        refine (rename_no _ _ ND4.out k k).mono ?_
        rintro e w5 ⟨rfl, hb⟩
        have ND5 := Lib.hid (ND4.out.below hb)
        have B5 := Lib.hid (B4.out.trans (hb.mono B4.out.size))
        clear hb
        go_wp2_with fail
        refine (remove_no _ _ ND5.out k).mono ?_
        rintro e w6 ⟨rfl, hb⟩
        have ND6 := Lib.hid (ND5.out.below hb)
        have B6 := Lib.hid (B5.out.trans (hb.mono B5.out.size))
        clear hb
        go_wp2_with fail
        refine (syncDir_no _ _ ND6.out).mono ?_
        rintro e w7 ⟨rfl, hb⟩
        have ND7 := Lib.hid (ND6.out.below hb)
        have B7 := Lib.hid (B6.out.trans (hb.mono B6.out.size))
        clear hb
        go_wp2_with fail
        refine (spoil_no _ _ ND7.out k _).mono ?_
        rintro e w8 ⟨rfl, hb⟩
        have ND8 := Lib.hid (ND7.out.below hb)
        have B8 := Lib.hid (B7.out.trans (hb.mono B7.out.size))
        clear hb
        go_wp2_with fail
        generalize hWe : w8.alloc (.cells #[.int .i64 1, .int .i64 1, .int .i64 1, .int .i64 1, .int .i64 1, .int .i64 1, .int .i64 1, .int .i64 1] 31) = we
        have hba : Below w8.heap.size w8 we := by rw [← hWe]; exact (Below.refl _ _).alloc (Nat.le_refl _) _
        have hce : ∀ q : Nat, q < 8 → we.cell? ⟨w8.heap.size, q, none⟩ = some (.int .i64 1) := by
          intro q hq
          rw [← hWe, cell_of_row _ _ q _ _ _ (heap_alloc_new _ _)]
          match q, hq with
          | 0, _ => rfl
          | 1, _ => rfl
          | 2, _ => rfl
          | 3, _ => rfl
          | 4, _ => rfl
          | 5, _ => rfl
          | 6, _ => rfl
          | 7, _ => rfl
        have ND9 := Lib.hid (ND8.out.below hba)
        have B9 := Lib.hid (B8.out.trans (hba.mono B8.out.size))
        clear hWe hba
        go_loopw [11] (fun x wr => we = wr ∧ ∃ q : Nat, x = .int .i64 q ∧ q ≤ 8) (fun x _ => 8 - (intOf x).toNat)
        case atStart => exact ⟨rfl, 0, rfl, by omega⟩
        case round =>
          obtain ⟨rfl, q, rfl, hq⟩ := hrel
          by_cases hq8 : q = 8
          · subst hq8
            go_wp2_with fail
            refine (read_no _ _ ND9.out k).mono ?_
            rintro e w10 ⟨rfl, hb⟩
            have ND10 := Lib.hid (ND9.out.below hb)
            have B10 := Lib.hid (B9.out.trans (hb.mono B9.out.size))
            clear hb
            go_wp2_with fail
            refine (off_no _ _ ND10.out).mono ?_
            rintro e w11 ⟨rfl, hb⟩
            have ND11 := Lib.hid (ND10.out.below hb)
            have B11 := Lib.hid (B10.out.trans (hb.mono B10.out.size))
            clear hb
            go_wp2_with fail
            have hal := (Below.refl w11.heap.size w11).alloc (Nat.le_refl _) (.cells #[.int .i64 1] 3)
            have ND11a := Lib.hid (ND11.out.below hal)
            have B11a := Lib.hid (B11.out.trans (hal.mono B11.out.size))
            clear hal
            refine (start_no _ _ ND11a.out _ _).mono ?_
            rintro e w12 ⟨rfl, hb⟩
            have ND12 := Lib.hid (ND11a.out.below hb)
            have B12 := Lib.hid (B11a.out.trans (hb.mono B11a.out.size))
            clear hb
            go_wp2_with fail
            refine (names_no _ _ ND12.out).mono ?_
            rintro e w13 ⟨rfl, hb⟩
            have ND13 := Lib.hid (ND12.out.below hb)
            have B13 := Lib.hid (B12.out.trans (hb.mono B12.out.size))
            clear hb
            go_wp2_with fail
            refine (files_no _ _ ND13.out).mono ?_
            rintro e w14 ⟨rfl, hb⟩
            have ND14 := Lib.hid (ND13.out.below hb)
            have B14 := Lib.hid (B13.out.trans (hb.mono B13.out.size))
            clear hb
            go_wp2_with fail
            refine (power_no _ _ ND14.out).mono ?_
            rintro e w15 ⟨rfl, hb⟩
            have ND15 := Lib.hid (ND14.out.below hb)
            have B15 := Lib.hid (B14.out.trans (hb.mono B14.out.size))
            clear hb
            go_wp2_with fail
            refine (pending_no _ _ ND15.out).mono ?_
            rintro e w16 ⟨rfl, hb⟩
            have ND16 := Lib.hid (ND15.out.below hb)
            have B16 := Lib.hid (B15.out.trans (hb.mono B15.out.size))
            clear hb
            go_wp2_with fail
            refine (done_no _ _ ND16.out).mono ?_
            rintro e w17 ⟨rfl, hb⟩
            have ND17 := Lib.hid (ND16.out.below hb)
            have B17 := Lib.hid (B16.out.trans (hb.mono B16.out.size))
            clear hb
            go_wp2_with fail
            go_roundw
            case rel => exact ⟨B17.out, 0 + 1, by simp, by omega⟩
            case measure => simp [intOf]
          · have hqd : decide ((q : Int) < 8) = true := by simp; omega
            have hc := hce q (by omega)
            go_wp2_with fail
            go_roundw
            case rel => exact ⟨trivial, q + 1, by simp, by omega⟩
            case measure => simp [intOf]; omega
end Go.Proofs.Ytaeiijncklmfdaa
