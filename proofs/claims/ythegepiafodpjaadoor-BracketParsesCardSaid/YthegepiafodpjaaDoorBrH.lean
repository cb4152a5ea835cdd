/-
  galleyref04.Parse.
-/
import Derived.Test.YthegepiafodpjaaDoorBrG
import Derived.Test.YthegepiafodpjaaDoorBrQ
import Derived.Test.YthegepiafodpjaaDoorCls2
namespace Go.Proofs.YthegepiafodpjaaDoor
open Go.RowKit

/-- The loop of Parse: the result's box, the class's box. -/
structure RL (w0 wr : World) (g4 g10 : Nat) (a : Option Addr) (n c op : Nat) (l : List Mk) (fs f k : Nat) (set : List Nat) : Prop where
  sm : SM w0 (.slice a n c) l
  b4 : wr.heap[g4]? = some (.cells zCl TCl (0, 0))
  b10 : wr.heap[g10]? = some (.cells (row64 set) TCl (0, 0))
  bel : Below w0.heap.size w0 wr
  l4 : w0.heap.size ≤ g4
  l10 : w0.heap.size ≤ g10
  ne : g10 ≠ g4
  isc : IsC set
  eq : ritemsM l op fs (l.length + 1) fs noneL = ritemsM l op fs f k set
  fk : n + 1 < k + f
theorem RL.below {w0 wr w' : World} {g4 g10 : Nat} {a : Option Addr} {n c op : Nat} {l : List Mk} {fs f k : Nat} {set : List Nat} (h : RL w0 wr g4 g10 a n c op l fs f k set) (hb : Below wr.heap.size wr w') : RL w0 w' g4 g10 a n c op l fs f k set :=
  { h with b4 := heap_b hb h.b4, b10 := heap_b hb h.b10, bel := h.bel.trans (hb.mono h.bel.size) }
theorem RL.sm' {w0 wr : World} {g4 g10 : Nat} {a : Option Addr} {n c op : Nat} {l : List Mk} {fs f k : Nat} {set : List Nat} (h : RL w0 wr g4 g10 a n c op l fs f k set) : SM wr (.slice a n c) l := h.sm.below h.bel
theorem RL.store {w0 wr : World} {g4 g10 : Nat} {a : Option Addr} {n c op : Nat} {l : List Mk} {fs f k f' k' : Nat} {set set' : List Nat} (h : RL w0 wr g4 g10 a n c op l fs f k set) (hi : IsC set') (he : ritemsM l op fs (l.length + 1) fs noneL = ritemsM l op fs f' k' set') (hf : n + 1 < k' + f') : RL w0 (wr.setRow g10 (row64 set')) g4 g10 a n c op l fs f' k' set' :=
  ⟨h.sm, by rw [_root_.Go.setRow_other _ _ _ _ (Ne.symm h.ne)]; exact h.b4, setRow_heap _ _ _ _ _ _ h.b10, below_setRow h.bel h.l10 _, h.l4, h.l10, h.ne, hi, he, hf⟩
theorem RL.row {w0 wr : World} {g4 g10 : Nat} {a : Option Addr} {n c op : Nat} {l : List Mk} {fs f k : Nat} {set : List Nat} (h : RL w0 wr g4 g10 a n c op l fs f k set) (set' : List Nat) :
    Below w0.heap.size w0 (wr.setRow g10 (row64 set')) ∧ (wr.setRow g10 (row64 set')).heap[g4]? = some (.cells zCl TCl (0, 0)) ∧ (wr.setRow g10 (row64 set')).heap[g10]? = some (.cells (row64 set') TCl (0, 0)) :=
  ⟨below_setRow h.bel h.l10 _, by rw [_root_.Go.setRow_other _ _ _ _ (Ne.symm h.ne)]; exact h.b4, setRow_heap _ _ _ _ _ _ h.b10⟩
theorem rparse_eq (l : List Mk) (op : Nat) (h : sgn l op 91 = true) : parseB l (op : Int) = match ritemsM l op (if sgn l (op + 1) 94 then op + 2 else op + 1) (l.length + 1) (if sgn l (op + 1) 94 then op + 2 else op + 1) noneL with
    | .bad e p => (noneL, (p : Int), (e : Int))
    | .ok set _ _ i => (if sgn l (op + 1) 94 then notL set else set, (i : Int) + 1, 0) := by
  unfold parseB
  rw [if_neg (by simp [h]), show ((op : Int)).toNat = op by simp]
  simp only
  rw [ritems_eq l op _ (l.length + 1) (l.length + 1) _ noneL (by omega) (by omega) (Nat.le_refl _)]
  generalize itemsM l op (if sgn l (op + 1) 94 = true then op + 2 else op + 1) (l.length + 1) (if sgn l (op + 1) 94 = true then op + 2 else op + 1) noneL = r
  cases r <;> rfl
theorem ritem_okC (l : List Mk) (op i : Nat) (first : Bool) : OkC (ritemM l op i first) := by
  have h1 := thing_okC l op i
  unfold ritemM
  split
  · trivial
  · rename_i h
    rw [h] at h1
    split
    · split <;> trivial
    · split
      · exact h1
      · split
        · trivial
        · split
          · trivial
          · split
            · trivial
            · exact isC_rangeL4 _ _
theorem ritem_bad (l : List Mk) (op i : Nat) (first : Bool) : BadE (ritemM l op i first) := by
  have h1 := thing_bad l op i
  unfold ritemM
  split
  · rename_i h
    rw [h] at h1
    exact h1
  · split
    · split
      · exact .inr (.inr rfl)
      · exact .inl rfl
    · split
      · trivial
      · split
        · exact .inl rfl
        · have h2 : ∀ x, BadE (thingM l op x) := thing_bad l op
          split
          · rename_i h3
            exact h3 ▸ h2 _
          · split
            · exact .inl rfl
            · trivial
theorem rtC_lit (fr tt u0 u1 u2 u3 er : Nat) (fin bare : Bool) (b : Int) : rtC fr tt fin bare b u0 u1 u2 u3 er = #[.int .i64 (fr : Int), .int .i64 (tt : Int), .bool fin, .bool bare, .int .u8 b, .int .u64 (u0 : Int), .int .u64 (u1 : Int), .int .u64 (u2 : Int), .int .u64 (u3 : Int), .int .i64 (er : Int)] := rfl
def RpP (w0 wr : World) (g4 g10 : Nat) (a : Option Addr) (n c op : Nat) (l : List Mk) (fs f k : Nat) (set : List Nat) (b : Bool) (v : Value) : Prop := v = .bool b ∧ RL w0 wr g4 g10 a n c op l fs f k set

set_option maxHeartbeats 4000000 in
set_option maxRecDepth 100000 in
theorem refParse_any (w : World) (a : Option Addr) (n c : Nat) (at' : Int) (l : List Mk) (h : SM w (.slice a n c) l) :
    Calls Tryd.prog 12 #[.slice a n c, .int .i64 at'] w (PaPost w (parseB l at')) := by
  obtain ⟨hl, hn⟩ := h.len
  have n4 := heap_alloc_new w (.cells zCl TCl)
  have b4 := box1 w (.cells zCl TCl)
  obtain ⟨g4, hg4⟩ : ∃ g4, w.heap.size = g4 := ⟨_, rfl⟩
  rw [hg4] at n4
  have HL := Lib.hid hl
  have HSM := Lib.hid h
  have H4 := Lib.hid n4
  have HB4 := Lib.hid b4
  have HG := Lib.hid hg4
  clear h hl n4 b4
  go_enter Tryd.func12, Tryd.ntmps12
  go_upto_region 1 with fail
  clear hg4
  generalize w.alloc (.cells zCl TCl) = w1 at H4 HB4 ⊢
  by_cases hneg : at' < 0
  · have HEQ := Lib.hid (parse_arg l at' (.inl hneg))
    go_wp2_with fail
    refine (refSign_neg w1 a n c at' hneg 91).mono ?_
    rintro e w2 ⟨rfl, hb⟩
    have H42 := Lib.hid (heap_b hb H4.out)
    have HB2 := Lib.hid (HB4.out.trans (hb.mono HB4.out.size))
    clear hb hneg H4 HB4
    have HQ := Lib.hid (below_setRow HB2.out (show w.heap.size ≤ g4 by rw [HG.out]; exact Nat.le_refl _) zCl)
    go_wp2_with (refine wpList_store_row rfl TCl (.tmp 4) (.tmp 16) rfl rfl g4 TCl zCl zCl rfl rfl H42.out rfl infoCl (by decide) ?_)
    exact ret_box3 (p := 4) (q := 5) (r := 6) rfl rfl (setRow_heap _ g4 _ zCl TCl _ H42.out) Tryd.underlying28 rfl infoCl rfl ⟨by rw [HEQ.out]; rfl, HQ.out⟩
  · obtain ⟨op, rfl⟩ : ∃ op : Nat, at' = (op : Int) := ⟨at'.toNat, by omega⟩
    clear hneg
    go_wp2_with fail
    refine (refSign_any w1 a n c op 91 l (HSM.out.below HB4.out)).mono ?_
    rintro e w2 ⟨rfl, hb⟩
    have H42 := Lib.hid (heap_b hb H4.out)
    have HB2 := Lib.hid (HB4.out.trans (hb.mono HB4.out.size))
    clear hb H4 HB4
    cases hs : sgn l op 91 with
    | false =>
      have HEQ := Lib.hid (parse_arg l (op : Int) (.inr (by simpa using hs)))
      clear hs
      have HQ := Lib.hid (below_setRow HB2.out (show w.heap.size ≤ g4 by rw [HG.out]; exact Nat.le_refl _) zCl)
      go_wp2_with (refine wpList_store_row rfl TCl (.tmp 4) (.tmp 16) rfl rfl g4 TCl zCl zCl rfl rfl H42.out rfl infoCl (by decide) ?_)
      exact ret_box3 (p := 4) (q := 5) (r := 6) rfl rfl (setRow_heap _ g4 _ zCl TCl _ H42.out) Tryd.underlying28 rfl infoCl rfl ⟨by rw [HEQ.out]; rfl, HQ.out⟩
    | true =>
      have HPB := Lib.hid (rparse_eq l op hs)
      have hopn : op < n := by have := sgn_lt hs; rw [HL.out] at this; exact this
      clear hs
      go_wp2_with fail
      refine (refSign_any w2 a n c (op + 1) 94 l (HSM.out.below HB2.out)).mono ?_
      rintro e w3 ⟨rfl, hb⟩
      have H43 := Lib.hid (heap_b hb H42.out)
      have HB3 := Lib.hid (HB2.out.trans (hb.mono HB2.out.size))
      clear hb H42 HB2
      obtain ⟨nt, hnt⟩ : ∃ nt, sgn l (op + 1) 94 = nt := ⟨_, rfl⟩
      rw [hnt] at HPB ⊢
      clear hnt
      obtain ⟨fs, hfs⟩ : ∃ fs, (if nt = true then op + 2 else op + 1) = fs := ⟨_, rfl⟩
      rw [hfs] at HPB
      have hfsl : fs ≤ op + 2 := by rw [← hfs]; split <;> omega
      have hfsl2 : op + 1 ≤ fs := by rw [← hfs]; split <;> omega
      have HFS := Lib.hid hfs
      clear hfs
      go_upto_if 22 with fail
      go_cut [7] (fun v wx => v = .int .i64 (fs : Int) ∧ w3 = wx)
      case first =>
        cases nt with
        | true =>
          go_wp2_with fail
          go_meet
          case rel => exact ⟨by rw [← HFS.out]; go_num, rfl⟩
        | false =>
          go_wp2_with fail
          go_meet
          case rel => exact ⟨by rw [← HFS.out]; go_num, rfl⟩
      case rest =>
        obtain ⟨rfl, rfl⟩ := hcut
        have n10 := heap_alloc_new w3 (.cells zCl TCl)
        have hbx := box1 w3 (.cells zCl TCl)
        have HR0 : Hid (RL w (w3.alloc (.cells zCl TCl)) g4 w3.heap.size a n c op l fs (l.length + 1) fs noneL) := Lib.hid
          ⟨HSM.out, heap_b hbx H43.out, n10, HB3.out.trans (hbx.mono HB3.out.size), by rw [HG.out]; exact Nat.le_refl _, HB3.out.size, by have := (Array.getElem?_eq_some_iff.1 H43.out).1; omega, isC_none, rfl, by rw [HL.out]; omega⟩
        clear n10 hbx HB3 H43
        go_wp2_with fail
        generalize w3.heap.size = g10 at HR0 ⊢
        generalize w3.alloc (.cells zCl TCl) = wl at HR0 ⊢
        go_loopw [7] (fun v wr => ∃ (k f : Nat) (set : List Nat), k ≤ n + 1 ∧ fs ≤ k ∧ v = .int .i64 (k : Int) ∧ RL w wr g4 g10 a n c op l fs f k set) (fun v _ => n + 1 - (intOf v).toNat)
        case atStart => exact ⟨fs, l.length + 1, noneL, by omega, Nat.le_refl _, rfl, HR0.out⟩
        case round =>
          clear HR0
          obtain ⟨k, f, set, hk, hfk, rfl, hR⟩ := hrel
          have HR := Lib.hid hR
          clear hR
          obtain ⟨i, hi⟩ : ∃ i, k = i := ⟨_, rfl⟩
          clear hi i
          go_upto_region 9 with fail
          go_cut [35] (fun v wx => RpP w wx g4 g10 a n c op l fs f k set (decide (k = fs) || !sgn l k 93) v)
          case first =>
            by_cases hkf : k = fs
            · have hkd : ((k : Int) == (fs : Int)) = true := by simp [hkf]
              have HK := Lib.hid hkf
              clear hkf
              go_wp2_with fail
              go_meet
              case rel => exact ⟨by rw [decide_eq_true HK.out]; rfl, HR.out⟩
            · have hkd : ((k : Int) == (fs : Int)) = false := by simp; omega
              have HK := Lib.hid hkf
              clear hkf
              go_wp2_with fail
              refine (refSign_any wr a n c k 93 l HR.out.sm').mono ?_
              rintro e w4 ⟨rfl, hb⟩
              have HR2 := Lib.hid (HR.out.below hb)
              clear hb HR
              go_wp2_with fail
              go_meet
              case rel => exact ⟨by rw [decide_eq_false HK.out]; rfl, HR2.out⟩
          case rest =>
            obtain ⟨hv, hR2⟩ := hcut
            subst hv
            generalize wc = w4 at hR2 ⊢
            have HR4 := Lib.hid hR2
            clear hR2 HR
            cases hcd : (decide (k = fs) || !sgn l k 93) with
            | true =>
              cases f with
              | zero =>
                exfalso
                have := HR4.out.fk
                omega
              | succ f =>
                have HST : Hid (ritemsM l op fs (l.length + 1) fs noneL = match ritemM l op k (decide (k = fs)) with
                  | .bad e a => .bad e a
                  | .ok s _ _ next => ritemsM l op fs f next (orL set s)) := Lib.hid (by
                  rw [HR4.out.eq]
                  conv => lhs; unfold ritemsM
                  rw [if_neg (by revert hcd; cases decide (k = fs) <;> cases sgn l k 93 <;> simp)]
                  rfl)
                have hok := ritem_okC l op k (decide (k = fs))
                have hbd := ritem_bad l op k (decide (k = fs))
                have hnx := ritem_next l op k (decide (k = fs))
                have hop := ritem_op l op k (decide (k = fs))
                clear hcd
                go_wp2_with fail
                refine (refItem_any w4 a n c op k fs l HR4.out.sm' (by omega)).mono ?_
                intro e w5 hP
                obtain ⟨hP, hb⟩ := hP
                have HR5 := Lib.hid (HR4.out.below hb)
                clear hb HR4
                cases hit : ritemM l op k (decide (k = fs)) with
                | bad er p =>
                  rw [hit] at HST hbd hop hP
                  obtain ⟨p', hpp, rfl⟩ := hP
                  have HEQ : Hid (ritemsM l op fs (l.length + 1) fs noneL = .bad er p) := HST
                  have HPE : Hid (parseB l (op : Int) = (noneL, (p : Int), (er : Int))) := Lib.hid (by rw [HPB.out, HEQ.out])
                  rw [rtC_lit]
                  have n11 := heap_alloc_new w5 (.cells #[.int .i64 (p' : Int), .int .i64 0, .bool false, .bool false, .int .u8 0, .int .u64 0, .int .u64 0, .int .u64 0, .int .u64 0, .int .i64 (er : Int)] TRt)
                  have hbx := box1 w5 (.cells #[.int .i64 (p' : Int), .int .i64 0, .bool false, .bool false, .int .u8 0, .int .u64 0, .int .u64 0, .int .u64 0, .int .u64 0, .int .i64 (er : Int)] TRt)
                  have HR6 := Lib.hid (HR5.out.below hbx)
                  have NE4 : Hid (w5.heap.size ≠ g4) := Lib.hid (by have := (Array.getElem?_eq_some_iff.1 HR5.out.b4).1; omega)
                  go_upto_region 11 with fail
                  generalize w5.heap.size = g11 at n11 NE4 ⊢
                  generalize w5.alloc (.cells #[.int .i64 (p' : Int), .int .i64 0, .bool false, .bool false, .int .u8 0, .int .u64 0, .int .u64 0, .int .u64 0, .int .u64 0, .int .i64 (er : Int)] TRt) = w6 at n11 HR6 ⊢
                  obtain ⟨y0, y1, y2, y3, y4, y9, y5, y6, y7, y8⟩ := rtC_cells (show w6.heap[g11]? = some (.cells (rtC p' 0 false false 0 0 0 0 0 er) TRt (0, 0)) from n11)
                  clear n11 hbx HR5 hok hnx hit HST HEQ HPB
                  by_cases h32 : er = 32
                  · subst h32
                    have hpo : p = op := hop rfl
                    subst hpo
                    clear hbd hpp hop
                    have HQ := Lib.hid (below_setRow HR6.out.bel HR6.out.l4 zCl)
                    simp only [Int.cast_ofNat_Int] at y9
                    go_wp2_with (refine wpList_store_row rfl TCl (.tmp 4) (.tmp 43) rfl rfl g4 TCl zCl zCl rfl rfl HR6.out.b4 rfl infoCl (by decide) ?_)
                    exact ret_box3 (p := 4) (q := 5) (r := 6) rfl rfl (setRow_heap _ g4 _ zCl TCl _ HR6.out.b4) Tryd.underlying28 rfl infoCl rfl ⟨by rw [HPE.out]; rfl, HQ.out⟩
                  · have hpe : p' = p := hpp h32
                    subst hpe
                    have h1 : ((er : Int) == 32) = false := by rw [beq_eq_false_iff_ne]; omega
                    have h2 : ((er : Int) != 0) = true := by rcases hbd with h | h | h <;> rw [h] <;> rfl
                    clear hbd hpp hop h32
                    go_upto_region 14 with fail
                    have hS : w6.drew.cell? ⟨g11, 0, none⟩ = some (.int .i64 (p' : Int)) ∧ w6.drew.cell? ⟨g11, 9, none⟩ = some (.int .i64 (er : Int)) := ⟨y0, y9⟩
                    clear y0 y1 y2 y3 y4 y5 y6 y7 y8 y9
                    have HR7 := Lib.hid (HR6.out.below (Below.refl _ w6).drew)
                    refine wp_region_held_drew (S := fun w' => w'.cell? ⟨g11, 0, none⟩ = some (.int .i64 (p' : Int)) ∧ w'.cell? ⟨g11, 9, none⟩ = some (.int .i64 (er : Int))) (by kernel_rfl) hS (fun hHeld => ?_)
                    generalize w6.drew = wd at HR7 hHeld ⊢
                    clear hS
                    refine wpAnyH_take (i := 0) (v := .agg zCl) rfl (by kernel_rfl) (by kernel_rfl) (by kernel_rfl) (fun _ _ _ h => h) (Or.inl ⟨by rfl, by intro w hSw; (try dsimp only at hSw); go_simp⟩) (by assumption) ?_
                    simp only [Act.put, List.getElem_toArray, List.getElem_cons_zero, List.setIfInBounds_toArray, List.set_cons_zero, List.set_cons_succ]
                    refine wpAnyH_take (i := 1) (v := .pointer (some ⟨g11, 0, none⟩)) rfl (by kernel_rfl) (by kernel_rfl) (by kernel_rfl) (fun _ _ _ h => h) (Or.inl ⟨by rfl, by intro w hSw; (try dsimp only at hSw); go_simp⟩) (by assumption) ?_
                    simp only [Act.put, List.getElem_toArray, List.getElem_cons_zero, List.getElem_cons_succ, List.setIfInBounds_toArray, List.set_cons_zero, List.set_cons_succ]
                    refine wpAnyH_take (i := 2) (v := .int .i64 (p' : Int)) rfl (by kernel_rfl) (by kernel_rfl) (by kernel_rfl) (fun _ _ _ h => h) (Or.inl ⟨by rfl, by intro w hSw; (try dsimp only at hSw); go_simp⟩) (by assumption) ?_
                    simp only [Act.put, List.getElem_toArray, List.getElem_cons_zero, List.getElem_cons_succ, List.setIfInBounds_toArray, List.set_cons_zero, List.set_cons_succ]
                    refine wpAnyH_take (i := 3) (v := .pointer (some ⟨g11, 9, none⟩)) rfl (by kernel_rfl) (by kernel_rfl) (by kernel_rfl) (fun _ _ _ h => h) (Or.inl ⟨by rfl, by intro w hSw; (try dsimp only at hSw); go_simp⟩) (by assumption) ?_
                    simp only [Act.put, List.getElem_toArray, List.getElem_cons_zero, List.getElem_cons_succ, List.setIfInBounds_toArray, List.set_cons_zero, List.set_cons_succ]
                    refine wpAnyH_take (i := 4) (v := .int .i64 (er : Int)) rfl (by kernel_rfl) (by kernel_rfl) (by kernel_rfl) (fun _ _ _ h => h) (Or.inl ⟨by rfl, by intro w hSw; (try dsimp only at hSw); go_simp⟩) (by assumption) ?_
                    simp only [Act.put, List.getElem_toArray, List.getElem_cons_zero, List.getElem_cons_succ, List.setIfInBounds_toArray, List.set_cons_zero, List.set_cons_succ]
                    refine wpAnyH_ready (rs := [5]) (by kernel_rfl) (by simp) ?_
                    refine AllReadyH.cons rfl (fun K hK => ?_) AllReadyH.nil
                    refine wp_store_row TCl _ _ rfl g4 zCl rfl rfl TCl zCl HR7.out.b4 infoCl rfl (by kernel_rfl) ?_
                    refine hK.out _ _ ⟨setRow_cellF hHeld.1 NE4.out, setRow_cellF hHeld.2 NE4.out⟩ (fun hHeld => ?_)
                    clear hK K
                    refine wpAnyH_take (i := 6) (v := .int .i64 (p' : Int)) rfl (by kernel_rfl) (by kernel_rfl) (by kernel_rfl) (fun _ _ _ h => h) (Or.inl ⟨by rfl, by intro w hSw; (try dsimp only at hSw); go_simp⟩) (by assumption) ?_
                    simp only [Act.put, List.getElem_toArray, List.getElem_cons_zero, List.getElem_cons_succ, List.setIfInBounds_toArray, List.set_cons_zero, List.set_cons_succ]
                    refine wpAnyH_take (i := 7) (v := .int .i64 (er : Int)) rfl (by kernel_rfl) (by kernel_rfl) (by kernel_rfl) (fun _ _ _ h => h) (Or.inl ⟨by rfl, by intro w hSw; (try dsimp only at hSw); go_simp⟩) (by assumption) ?_
                    simp only [Act.put, List.getElem_toArray, List.getElem_cons_zero, List.getElem_cons_succ, List.setIfInBounds_toArray, List.set_cons_zero, List.set_cons_succ]
                    refine wpAnyH_done (by kernel_rfl) ?_ _
                    go_wp2_with fail
                    exact ret_box3 (p := 4) (q := 5) (r := 6) rfl rfl (setRow_heap _ g4 _ zCl TCl _ HR7.out.b4) Tryd.underlying28 rfl infoCl rfl ⟨by rw [HPE.out]; rfl, below_setRow HR7.out.bel HR7.out.l4 _⟩
                | ok s fin v next =>
                  rw [hit] at HST hok hnx hP
                  obtain ⟨x0, x1, x2, x3, rfl⟩ := isC_words s hok
                  obtain ⟨m0, m1, m2, m3, rfl⟩ := isC_words set HR5.out.isc
                  obtain ⟨fin2, bare2, v2, rfl⟩ := hP
                  have hnn := hnx.2
                  have hnk := hnx.1
                  rw [HL.out] at hnn
                  have HOK := Lib.hid hok
                  simp only [List.getElem?_cons_zero, List.getElem?_cons_succ, Option.getD_some]
                  rw [rtC_lit]
                  have n11 := heap_alloc_new w5 (.cells #[.int .i64 (k : Int), .int .i64 (next : Int), .bool fin2, .bool bare2, .int .u8 v2, .int .u64 (x0 : Int), .int .u64 (x1 : Int), .int .u64 (x2 : Int), .int .u64 (x3 : Int), .int .i64 0] TRt)
                  have hbx := box1 w5 (.cells #[.int .i64 (k : Int), .int .i64 (next : Int), .bool fin2, .bool bare2, .int .u8 v2, .int .u64 (x0 : Int), .int .u64 (x1 : Int), .int .u64 (x2 : Int), .int .u64 (x3 : Int), .int .i64 0] TRt)
                  have HR6 := Lib.hid (HR5.out.below hbx)
                  have NE : Hid (w5.heap.size ≠ g10) := Lib.hid (by have := (Array.getElem?_eq_some_iff.1 HR5.out.b10).1; omega)
                  go_upto_region 11 with fail
                  generalize w5.heap.size = g11 at n11 NE ⊢
                  generalize w5.alloc (.cells #[.int .i64 (k : Int), .int .i64 (next : Int), .bool fin2, .bool bare2, .int .u8 v2, .int .u64 (x0 : Int), .int .u64 (x1 : Int), .int .u64 (x2 : Int), .int .u64 (x3 : Int), .int .i64 0] TRt) = w6 at n11 HR6 ⊢
                  obtain ⟨y0, y1, y2, y3, y4, y9, y5, y6, y7, y8⟩ := rtC_cells (show w6.heap[g11]? = some (.cells (rtC k next fin2 bare2 v2 x0 x1 x2 x3 0) TRt (0, 0)) from n11)
                  obtain ⟨e0, e1, e2, e3⟩ := cells4n (show w6.heap[g10]? = some (.cells #[.int .u64 (m0 : Int), .int .u64 (m1 : Int), .int .u64 (m2 : Int), .int .u64 (m3 : Int)] TCl (0, 0)) from HR6.out.b10)
                  have H11 := Lib.hid n11
                  clear n11 hbx HR5 hok hnx hit hbd hop
                  go_wp2_with fail
                  clear y0 y2 y3 y4 y5 y6 y7 y8 y9 e0 e1 e2 e3
                  refine (refOr_any w6 [m0, m1, m2, m3] [x0, x1, x2, x3] HR6.out.isc HOK.out).mono ?_
                  rintro e w7 ⟨rfl, hb⟩
                  have HR7 := Lib.hid (HR6.out.below hb)
                  have y1 := cell_b hb y1
                  obtain ⟨t0, t1, t2, t3, ht⟩ := isC_words _ (isC_or _ _ HR6.out.isc HOK.out)
                  have HTT := Lib.hid (show IsC [t0, t1, t2, t3] from ht ▸ isC_or _ _ HR6.out.isc HOK.out)
                  rw [ht] at HST
                  rw [ht, show row64 [t0, t1, t2, t3] = #[.int .u64 (t0 : Int), .int .u64 (t1 : Int), .int .u64 (t2 : Int), .int .u64 (t3 : Int)] from rfl]
                  clear ht hb HR6
                  have y1r : (w7.setRow g10 #[.int .u64 (t0 : Int), .int .u64 (t1 : Int), .int .u64 (t2 : Int), .int .u64 (t3 : Int)]).cell? ⟨g11, 1, none⟩ = some (.int .i64 (next : Int)) := setRow_cellF y1 NE.out
                  have HNW : Hid (RL w (w7.setRow g10 #[.int .u64 (t0 : Int), .int .u64 (t1 : Int), .int .u64 (t2 : Int), .int .u64 (t3 : Int)]) g4 g10 a n c op l fs f next [t0, t1, t2, t3]) := Lib.hid (HR7.out.store (set' := [t0, t1, t2, t3]) HTT.out HST.out (by have := HR7.out.fk; omega))
                  have HB10 : Hid (w7.heap[g10]? = some (.cells #[.int .u64 (m0 : Int), .int .u64 (m1 : Int), .int .u64 (m2 : Int), .int .u64 (m3 : Int)] TCl (0, 0))) := Lib.hid HR7.out.b10
                  clear y1
                  go_wp2_with (refine wpList_store_row rfl TCl (.tmp 10) (.tmp 56) rfl rfl g10 TCl #[.int .u64 (m0 : Int), .int .u64 (m1 : Int), .int .u64 (m2 : Int), .int .u64 (m3 : Int)] #[.int .u64 (t0 : Int), .int .u64 (t1 : Int), .int .u64 (t2 : Int), .int .u64 (t3 : Int)] rfl rfl HB10.out rfl infoCl (by simp [Value.oneCell']) ?_)
                  go_roundw
                  case rel => exact ⟨next, f, [t0, t1, t2, t3], by omega, by omega, rfl, HNW.out⟩
                  case measure => simp [intOf]; omega
            | false =>
              have hcd2 : (!decide (k = fs) && sgn l k 93) = true := by revert hcd; cases decide (k = fs) <;> cases sgn l k 93 <;> simp
              have hkl := sgn_lt (Bool.and_eq_true_iff.1 hcd2).2
              rw [HL.out] at hkl
              have HEQ : Hid (ritemsM l op fs (l.length + 1) fs noneL = .ok set false 0 k) := Lib.hid (by
                rw [HR4.out.eq]
                cases f with
                | zero => exfalso; have := HR4.out.fk; omega
                | succ f => unfold ritemsM; rw [if_pos hcd2])
              have HPE : Hid (parseB l (op : Int) = (if nt = true then notL set else set, (k : Int) + 1, 0)) := Lib.hid (by rw [HPB.out, HEQ.out])
              obtain ⟨m0, m1, m2, m3, rfl⟩ := isC_words set HR4.out.isc
              clear hcd hcd2 HEQ HPB
              cases nt with
              | false =>
                obtain ⟨e0, e1, e2, e3⟩ := cells4n (show w4.heap[g10]? = some (.cells #[.int .u64 (m0 : Int), .int .u64 (m1 : Int), .int .u64 (m2 : Int), .int .u64 (m3 : Int)] TCl (0, 0)) from HR4.out.b10)
                go_wp2_with (refine wpList_store_row rfl TCl (.tmp 4) (.tmp 62) rfl rfl g4 TCl zCl #[.int .u64 (m0 : Int), .int .u64 (m1 : Int), .int .u64 (m2 : Int), .int .u64 (m3 : Int)] rfl rfl HR4.out.b4 rfl infoCl (by simp [Value.oneCell']) ?_)
                exact ret_box3 (p := 4) (q := 5) (r := 6) rfl rfl (setRow_heap _ g4 _ #[.int .u64 (m0 : Int), .int .u64 (m1 : Int), .int .u64 (m2 : Int), .int .u64 (m3 : Int)] TCl _ HR4.out.b4) Tryd.underlying28 rfl infoCl rfl ⟨by rw [HPE.out]; rfl, below_setRow HR4.out.bel HR4.out.l4 _⟩
              | true =>
                obtain ⟨e0, e1, e2, e3⟩ := cells4n (show w4.heap[g10]? = some (.cells #[.int .u64 (m0 : Int), .int .u64 (m1 : Int), .int .u64 (m2 : Int), .int .u64 (m3 : Int)] TCl (0, 0)) from HR4.out.b10)
                go_wp2_with fail
                clear e0 e1 e2 e3
                refine (refNot_any w4 [m0, m1, m2, m3] HR4.out.isc).mono ?_
                rintro e w7 ⟨rfl, hb⟩
                have HR7 := Lib.hid (HR4.out.below hb)
                obtain ⟨t0, t1, t2, t3, ht⟩ := isC_words _ (isC_not _ HR4.out.isc)
                rw [if_pos trivial, ht] at HPE
                rw [ht, show row64 [t0, t1, t2, t3] = #[.int .u64 (t0 : Int), .int .u64 (t1 : Int), .int .u64 (t2 : Int), .int .u64 (t3 : Int)] from rfl]
                clear ht hb HR4
                obtain ⟨q1, q2, q3⟩ := HR7.out.row [t0, t1, t2, t3]
                have q1 : Below w.heap.size w (w7.setRow g10 #[.int .u64 (t0 : Int), .int .u64 (t1 : Int), .int .u64 (t2 : Int), .int .u64 (t3 : Int)]) := q1
                have q2 : (w7.setRow g10 #[.int .u64 (t0 : Int), .int .u64 (t1 : Int), .int .u64 (t2 : Int), .int .u64 (t3 : Int)]).heap[g4]? = some (.cells zCl TCl (0, 0)) := q2
                have q3 : (w7.setRow g10 #[.int .u64 (t0 : Int), .int .u64 (t1 : Int), .int .u64 (t2 : Int), .int .u64 (t3 : Int)]).heap[g10]? = some (.cells #[.int .u64 (t0 : Int), .int .u64 (t1 : Int), .int .u64 (t2 : Int), .int .u64 (t3 : Int)] TCl (0, 0)) := q3
                obtain ⟨e0, e1, e2, e3⟩ := cells4n q3
                have HQ := Lib.hid (And.intro q1 q2)
                have HL4 := Lib.hid HR7.out.l4
                have HB10 : Hid (w7.heap[g10]? = some (.cells #[.int .u64 (m0 : Int), .int .u64 (m1 : Int), .int .u64 (m2 : Int), .int .u64 (m3 : Int)] TCl (0, 0))) := Lib.hid HR7.out.b10
                clear q1 q2 q3 HR7
                go_wp2_with (first | (refine wpList_store_row rfl TCl (.tmp 10) (.tmp 61) rfl rfl g10 TCl #[.int .u64 (m0 : Int), .int .u64 (m1 : Int), .int .u64 (m2 : Int), .int .u64 (m3 : Int)] #[.int .u64 (t0 : Int), .int .u64 (t1 : Int), .int .u64 (t2 : Int), .int .u64 (t3 : Int)] rfl rfl HB10.out rfl infoCl (by simp [Value.oneCell']) ?_) | (refine wpList_store_row rfl TCl (.tmp 4) (.tmp 62) rfl rfl g4 TCl zCl #[.int .u64 (t0 : Int), .int .u64 (t1 : Int), .int .u64 (t2 : Int), .int .u64 (t3 : Int)] rfl rfl HQ.out.2 rfl infoCl (by simp [Value.oneCell']) ?_))
                exact ret_box3 (p := 4) (q := 5) (r := 6) rfl rfl (setRow_heap _ g4 _ #[.int .u64 (t0 : Int), .int .u64 (t1 : Int), .int .u64 (t2 : Int), .int .u64 (t3 : Int)] TCl _ HQ.out.2) Tryd.underlying28 rfl infoCl rfl ⟨by rw [HPE.out]; rfl, below_setRow HQ.out.1 HL4.out _⟩
end Go.Proofs.YthegepiafodpjaaDoor
