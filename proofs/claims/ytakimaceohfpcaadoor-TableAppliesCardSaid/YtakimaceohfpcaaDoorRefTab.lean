/-
  galleyref15: Apply, Then, Print.
-/
import Derived.Test.YtakimaceohfpcaaDoorThen
import Derived.Test.YtakimaceohfpcaaDoorPrint
import Derived.Test.YtakimaceohfpcaaDoorStepB
import Derived.Test.YtakimaceohfpcaaDoorUp
namespace Go.Proofs.YtakimaceohfpcaaDoor
open Go.RowKit

theorem app_snoc (t b : List Int) (k : Nat) (h : k < b.length) : app t (b.take (k + 1)) = app t (b.take k) ++ [t[(b[k]?.getD 0).toNat]?.getD 0] := by
  unfold app
  rw [List.take_add_one, List.map_append, List.getElem?_eq_getElem h]
  rfl
set_option maxHeartbeats 1000000 in
set_option maxRecDepth 100000 in
theorem rapply_any (w : World) (g : Nat) (T : TypeId) (t b : List Int) (a : Option Addr) (n c : Nat) (ht : Arr w g T t) (htl : t.length = 256) (hb : SB w (.slice a n c) b) :
    Calls Tryd.prog 30 #[.pointer (some ⟨g, 0, none⟩), .slice a n c] w (TwinPost w (app t b)) := by
  obtain ⟨hl, hn⟩ := hb.len
  subst hl
  have HB := Lib.hid hb
  have HT := Lib.hid (And.intro ht htl)
  clear hb ht htl
  go_enter Tryd.func30, Tryd.ntmps30
  go_wp2_with fail
  go_loopw [5, 6] (fun v i wr => ∃ k : Nat, k ≤ b.length ∧ i = .int .i64 k ∧ OwnB wr w.heap.size v (app t (b.take k)) ∧ Below w.heap.size w wr) (fun _ i _ => b.length - (intOf i).toNat)
  case atStart => exact ⟨0, Nat.zero_le _, rfl, OwnB.nil _ _, Below.refl _ _⟩
  case round =>
    obtain ⟨k, hk, rfl, ho, rb⟩ := hrel
    obtain ⟨a5, c5, rfl⟩ := ho.shape
    have hlen : (app t (b.take k)).length = k := by rw [app_len, List.length_take]; omega
    rw [hlen]
    by_cases hlt : k < b.length
    · have hd : decide ((k : Int) < (b.length : Int)) = true := by simp; omega
      obtain ⟨bb, ob, rfl, hc⟩ := (HB.out.below rb).read k hlt
      have hcw := hc k hlt
      have hbd := HB.out.1 k
      have htc := (HT.out.1.below rb HT.out.1.lt).cell (b[k]?.getD 0).toNat (by rw [HT.out.2]; omega)
      have Hst := Lib.hid (app_snoc t b k hlt)
      clear hc
      generalize b[k]?.getD 0 = x at hcw hbd htc Hst
      obtain ⟨z, rfl⟩ : ∃ z : Nat, x = z := ⟨x.toNat, by omega⟩
      rw [show ((z : Int)).toNat = z from rfl] at htc Hst
      have hz : z < 256 := by omega
      have hzi : (z : Int) < 256 := by omega
      generalize t[z]?.getD 0 = y at htc Hst
      rw [hlen] at ho
      have hbs := rb.size
      have Hlen := Lib.hid hlen
      clear hlen hbd
      generalize app t (b.take k) = X at ho Hst Hlen
      have Ho := Lib.hid ho
      have hxl : X.length + 1 ≤ 140737488355328 := by have := Hlen.out; omega
      clear ho
      go_wp2_with fail
      go_region_law ((refine step_app1 (by rfl) _ _ (by rfl) w.heap.size (.slice a5 k c5) X y (by rfl) Ho.out (by rfl) hxl hbs ?_; intro g1 cap' wn ho1 hA))
      all_goals
        have hb1 := hA.bel _ _ rb (Nat.le_refl _)
        rw [← Hst.out] at ho1
        have HF := Lib.hid (And.intro ho1 hb1)
        clear hA ho1 hb1 hcw htc
        go_wp2_with fail
        go_roundw
        case rel => exact ⟨k + 1, by omega, by go_num, HF.out.1, HF.out.2⟩
        case measure => simp [intOf]; omega
    · rw [hlen] at ho
      obtain rfl : k = b.length := by omega
      have hd : decide ((b.length : Int) < (b.length : Int)) = false := by simp
      rw [List.take_length] at ho
      have hF : TwinPost w (app t b) (.returned (.slice a5 b.length c5)) wr := ⟨_, rfl, ho, rb⟩
      have HF := Lib.hid hF
      clear hF ho hlen
      go_wp2_with fail
      go_ret
      exact HF.out
set_option maxHeartbeats 1000000 in
set_option maxRecDepth 100000 in
theorem rthen_any (w : World) (g h : Nat) (T S : TypeId) (t u : List Int) (ht : Arr w g T t) (hu : Arr w h S u) (htl : t.length = 256) (hul : u.length = 256) (hB : IsB t) :
    Calls Tryd.prog 36 #[.pointer (some ⟨g, 0, none⟩), .pointer (some ⟨h, 0, none⟩)] w fun e w' => e = .returned (.agg (row (app u t))) ∧ Below w.heap.size w w' := by
  have hz := zeroT
  have g4 : Arr ((w.alloc (.cells (row zrow) 73)).alloc (.cells (row zrow) 73)) w.heap.size 73 zrow := (Arr.new _ _ _).alloc _
  have g5 : Arr ((w.alloc (.cells (row zrow) 73)).alloc (.cells (row zrow) 73)) (w.heap.size + 1) 73 zrow := by
    have := Arr.new (w.alloc (.cells (row zrow) 73)) 73 zrow
    rwa [World.size_alloc] at this
  have gb : Below w.heap.size w ((w.alloc (.cells (row zrow) 73)).alloc (.cells (row zrow) 73)) := ((Below.refl _ w).alloc (Nat.le_refl _) _).alloc (by simp) _
  have HTL := Lib.hid htl
  have HUL := Lib.hid hul
  have HB := Lib.hid hB
  have hg := ht.lt
  have hh := hu.lt
  clear htl hul hB
  go_enter Tryd.func36, Tryd.ntmps36
  go_wp2_with fail
  go_loopw [6] (fun i wr => ∃ (k : Nat) (l : List Int), k ≤ 256 ∧ i = .int .i64 k ∧ l.length = 256 ∧ (∀ j : Nat, j < k → l[j]?.getD 0 = u[(t[j]?.getD 0).toNat]?.getD 0) ∧
    Arr wr w.heap.size 73 zrow ∧ Arr wr (w.heap.size + 1) 73 l ∧ Below w.heap.size w wr) (fun i _ => 256 - (intOf i).toNat)
  case atStart => exact ⟨0, _, Nat.zero_le _, rfl, zrow_len, fun j hj => by omega, g4, g5, gb⟩
  case round =>
    obtain ⟨k, l, hk, rfl, hll, hlj, r4, r5, rb⟩ := hrel
    have HLL := Lib.hid hll
    have HLJ := Lib.hid hlj
    clear hll hlj g4 g5 gb hz
    by_cases hlt : k < 256
    · have htc := (ht.below rb hg).cell k (by rw [HTL.out]; exact hlt)
      obtain ⟨hx0, hx1⟩ := HB.out k
      have huc := (hu.below rb hh).cell (t[k]?.getD 0).toNat (by rw [HUL.out]; omega)
      have hst : ∀ y : Int, y = u[(t[k]?.getD 0).toNat]?.getD 0 → ∀ j : Nat, j < k + 1 → (l.set k y)[j]?.getD 0 = u[(t[j]?.getD 0).toNat]?.getD 0 := by
        intro y ey j hj
        rw [List.getElem?_set]
        split
        · subst_vars
          rw [if_pos (by rw [HLL.out]; exact hlt)]; rfl
        · exact HLJ.out j (by omega)
      have hst2 := hst _ rfl
      clear hst
      generalize t[k]?.getD 0 = x at htc hx0 hx1 huc hst2
      generalize u[x.toNat]?.getD 0 = y at huc hst2
      obtain ⟨z, rfl⟩ : ∃ z : Nat, x = z := ⟨x.toNat, by omega⟩
      rw [show ((z : Int)).toNat = z from rfl] at huc
      have hz : z < 256 := by omega
      have hzi : (z : Int) < 256 := by omega
      have Hst := Lib.hid hst2
      have hc := r5.cell k (by rw [HLL.out]; exact hlt)
      have hf := r5.frozen k
      have hlt' : (k : Int) < 256 := by omega
      have hd : decide ((k : Int) < 256) = true := by simp; omega
      generalize l[k]?.getD 0 = old at hc
      clear hst2 hx0 hx1
      go_wp2_with fail
      go_region_law (fail)
      all_goals
        clear hc hf htc huc
        go_wp2_with fail
        go_roundw
        case rel => exact ⟨k + 1, l.set k y, by omega, by go_num, by rw [List.length_set, HLL.out], Hst.out, (r4.other _ (by simp) _).drewN 1, (r5.set _ _).drewN 1, below_drewN (rb.setCell (by simp) _) 1⟩
        case measure => simp [intOf]; omega
    · have hd : decide ((k : Int) < 256) = false := by simp; omega
      have e : l = app u t := ext_of l (app u t) (by rw [HLL.out, app_len, HTL.out]) fun j hj => by
        have hj' : j < 256 := by rw [HLL.out] at hj; exact hj
        rw [app_get u t j (by rw [HTL.out]; exact hj')]
        exact HLJ.out j (by omega)
      subst e
      have hlen : (row (app u t)).size = 256 := by rw [row_size, app_len, HTL.out]
      have Hlen := Lib.hid hlen
      clear hlen
      go_wp2_with (first | (refine wpList_load_row rfl 73 _ rfl (w.heap.size + 1) rfl 73 _ (0, 0) _ r5 Tryd.underlying73 rfl (by rw [Hlen.out]; exact infoT) ?_) | (refine wpList_store_row rfl 73 _ _ rfl rfl w.heap.size 73 _ _ rfl rfl r4 (by rw [Hlen.out]; rfl) (by rw [Hlen.out]; exact infoT) (row_one _) ?_))
      exact ret_row (l := app u t) rfl rfl r4.setRow Tryd.underlying73 rfl (by rw [app_len, HTL.out]; exact infoT) rfl ⟨rfl, below_setRow rb (Nat.le_refl _) _⟩
theorem OwnB.byApp {w w' : World} {base : Nat} {u v v' : Value} {l : List Int} {base2 : Nat} (h : OwnB w base u l) (hA : AppPost w w' base2 v v') (hap : Apart v u) : OwnB w' base u l ∧ Apart v' u :=
  ⟨own_blk h fun k e => hA.block k (World.ownsRow.lt h k e).2 (fun e2 => hap k e2 e), fun k h1 h2 => by
    rcases hA.new k h1 with e | e
    · exact hap k e h2
    · have := (World.ownsRow.lt h k h2).2; omega⟩
set_option maxHeartbeats 1000000 in
set_option maxRecDepth 100000 in
theorem rprint_any (w : World) (g : Nat) (T : TypeId) (t : List Int) (ht : Arr w g T t) (htl : t.length = 256) (hT : IsB t) :
    Calls Tryd.prog 34 #[.pointer (some ⟨g, 0, none⟩)] w (PrintPost w t) := by
  have HT := Lib.hid (And.intro ht (And.intro htl hT))
  clear ht htl hT
  go_enter Tryd.func34, Tryd.ntmps34
  go_wp2_with fail
  go_loopw [4, 5, 6] (fun va vb i wr => ∃ k : Nat, k ≤ 256 ∧ i = .int .i64 k ∧ OwnB wr w.heap.size va (pfTo t k) ∧ OwnB wr w.heap.size vb (ptTo t k) ∧ Apart va vb ∧ Below w.heap.size w wr) (fun _ _ i _ => 256 - (intOf i).toNat)
  case atStart => exact ⟨0, Nat.zero_le _, rfl, OwnB.nil _ _, OwnB.nil _ _, (fun k h _ => by simp [Value.ownBlock] at h), Below.refl _ _⟩
  case round =>
    obtain ⟨k, hk, rfl, ho4, ho5, hap, rb⟩ := hrel
    by_cases hlt : k < 256
    · have hlt' : (k : Int) < 256 := by omega
      have hd : decide ((k : Int) < 256) = true := by simp; omega
      have hc := (HT.out.1.below rb HT.out.1.lt).cell k (by rw [HT.out.2.1]; exact hlt)
      obtain ⟨hx0, hx1⟩ := HT.out.2.2 k
      have hwr : IntKind.u8.wrap (k : Int) = k := IntWalk.u8_in _ ⟨by omega, by omega⟩
      by_cases hst : t[k]?.getD 0 = (k : Int)
      · have hp := Lib.hid (show pfTo t (k + 1) = pfTo t k by rw [pfTo, if_pos hst])
        have hq := Lib.hid (show ptTo t (k + 1) = ptTo t k by rw [ptTo, if_pos hst])
        rw [hst] at hc
        clear hst hx0 hx1
        go_wp2_with fail
        go_roundw
        case rel => exact ⟨k + 1, by omega, by go_num, by rw [hp.out]; exact ho4, by rw [hq.out]; exact ho5, hap, rb⟩
        case measure => simp [intOf]; omega
      · have hp := Lib.hid (show pfTo t (k + 1) = pfTo t k ++ [(k : Int)] by rw [pfTo, if_neg hst])
        have hq := Lib.hid (show ptTo t (k + 1) = ptTo t k ++ [t[k]?.getD 0] by rw [ptTo, if_neg hst])
        have hl4 := pfTo_len t k
        have hl5 := ptTo_len t k
        have hne : (t[k]?.getD 0 != (k : Int)) = true := by rw [bne_iff_ne]; exact hst
        have HC : Hid (t[k]?.getD 0 = t[k]?.getD 0) := Lib.hid rfl
        have hcx : ∀ x, t[k]?.getD 0 = x → ∀ w', Below w.heap.size w w' → w'.cell? ⟨g, k, none⟩ = some (.int .u8 x) := fun x e w' hb => by rw [← e]; exact (HT.out.1.below hb HT.out.1.lt).cell k (by rw [HT.out.2.1]; exact hlt)
        obtain ⟨x, hx⟩ : ∃ x, t[k]?.getD 0 = x := ⟨_, rfl⟩
        have HCX := Lib.hid (hcx x hx)
        rw [hx] at hc hx0 hx1 hq hne
        generalize pfTo t k = X at ho4 hp hl4 hl5
        generalize ptTo t k = Y at ho5 hq hl5
        have hbs := rb.size
        clear hst hcx hx HC
        go_wp2_with (at_builtin; refine append_b1 rfl (.tmp 23) (.tmp 26) rfl w.heap.size _ X (k : Int) rfl ho4 rfl (by omega) hbs ?_)
        intro v1 w1 ho1 hA
        obtain ⟨ho5, hap1⟩ := ho5.byApp hA hap
        have rb1 := hA.bel _ _ rb (Nat.le_refl _)
        have hbs1 := rb1.size
        have hc1 := HCX.out _ rb1
        clear hA ho4 hap rb hbs hc
        go_wp2_with (at_builtin; refine append_b1 rfl (.tmp 28) (.tmp 34) rfl w.heap.size _ Y x rfl ho5 rfl (by omega) hbs1 ?_)
        intro v2 w2 ho2 hA
        obtain ⟨ho1, hap2⟩ := ho1.byApp hA hap1.symm
        have rb2 := hA.bel _ _ rb1 (Nat.le_refl _)
        rw [← hp.out] at ho1
        rw [← hq.out] at ho2
        clear hA ho5 hap1 rb1 hbs1 hc1
        go_wp2_with fail
        go_roundw
        case rel => exact ⟨k + 1, by omega, by go_num, ho1, ho2, hap2.symm, rb2⟩
        case measure => simp [intOf]; omega
    · obtain rfl : k = 256 := by omega
      go_wp2_with fail
      go_ret2
      exact ⟨_, _, rfl, ho4, ho5, hap, rb⟩
end Go.Proofs.YtakimaceohfpcaaDoor
