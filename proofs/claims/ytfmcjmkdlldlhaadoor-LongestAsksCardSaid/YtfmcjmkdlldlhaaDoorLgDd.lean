/-
  slices.DeleteFunc of threads: the walk.
-/
import Derived.Test.YtfmcjmkdlldlhaaDoorLgD
namespace Go.Proofs.YtfmcjmkdlldlhaaDoor
open Go.RowKit

attribute [local go_sem] Oper.semAt_some

theorem sizeT (w : World) : (sizeOf (Tryd.prog.elem 85)).run Tryd.prog w = .ok 2 w := by kernel_rfl
theorem elemT : Tryd.prog.underlying 85 = some (.slice (Tryd.prog.elem 85)) := by kernel_rfl
theorem cutLo (W : World) (g L nc i : Nat) (hi : i < L) (hL : L ≤ nc) : (Instr.slice 85 (.slice (some ⟨g, 0, none⟩) L nc) (some (.int .i64 (i : Int))) none none).run Tryd.prog W = .ok (.slice (some ⟨g, i * 2, none⟩) (L - i) (nc - i)) W := by
  rw [run_slice_l W 85 _ L nc elemT .i64 i (by omega) (by omega), sizeT]
  simp only [Result.andThen_ok, sliced, Int.toNat_natCast]
  rw [if_neg (by omega)]
  simp [Addr.add]
  intro h; omega
theorem cutHi (W : World) (g L nc i : Nat) (hi : i ≤ nc) : (Instr.slice 85 (.slice (some ⟨g, 0, none⟩) L nc) none (some (.int .i64 (i : Int))) none).run Tryd.prog W = .ok (.slice (some ⟨g, 0, none⟩) i nc) W := by
  rw [run_slice_h W 85 _ L nc elemT .i64 i (by omega) (by omega), sizeT]
  simp only [Result.andThen_ok, sliced, Int.toNat_natCast]
  by_cases h : nc = 0
  · simp [h]
  · simp [h, Addr.add]
theorem keep_snoc (bf : Nat) (l : List (Nat × Nat)) (k : Nat) (t : Nat × Nat) (h : l[k]? = some t) : keepL bf (l.take (k + 1)) = keepL bf (l.take k) ++ (if t.2 ≤ bf then [t] else []) := by
  obtain ⟨hk, rfl⟩ := List.getElem?_eq_some_iff.1 h
  unfold keepL
  rw [List.take_succ_eq_append_getElem hk, List.filter_append]
  congr 1
  by_cases h : l[k].2 ≤ bf <;> simp [h]
theorem cellsT_append (a b : List (Nat × Nat)) : cellsT (a ++ b) = cellsT a ++ cellsT b := by simp [cellsT]
theorem keep_all (bf : Nat) (l : List (Nat × Nat)) (h : ∀ t ∈ l, t.2 ≤ bf) : keepL bf l = l := List.filter_eq_self.2 fun t ht => by simpa using h t ht
theorem keep_len (bf : Nat) (l : List (Nat × Nat)) : (keepL bf l).length ≤ l.length := List.length_filter_le _ _
/-- What the row holds in the midst of the loop: i threads that stay, and those from j on. -/
def DelR (W : World) (base g L nc : Nat) (l : List (Nat × Nat)) (bf i j : Nat) : Prop :=
  i = (keepL bf (l.take j)).length ∧ ∃ ys, W.ownsRow base TT 2 (.slice (some ⟨g, 0, none⟩) L nc) L ys ∧ ys.take (i * 2) = cellsT (keepL bf (l.take j)) ∧ ys.drop (j * 2) = cellsT (l.drop j)
theorem DelR.thread {W : World} {base g L nc : Nat} {l : List (Nat × Nat)} {bf i j : Nat} (h : DelR W base g L nc l bf i j) {t : Nat × Nat} (ht : l[j]? = some t) : W.cell? ⟨g, j * 2, none⟩ = some (.int .i64 (t.1 : Int)) ∧ W.cell? ⟨g, j * 2 + 1, none⟩ = some (.int .i64 (t.2 : Int)) := by
  obtain ⟨_, ys, ho, _, hd⟩ := h
  obtain ⟨hj, rfl⟩ := List.getElem?_eq_some_iff.1 ht
  rw [List.drop_eq_getElem_cons hj] at hd
  have e : cellsT (l[j] :: l.drop (j + 1)) = [.int .i64 (l[j].1 : Int), .int .i64 (l[j].2 : Int)] ++ cellsT (l.drop (j + 1)) := rfl
  rw [e] at hd
  have g0 : ys[j * 2]? = some (.int .i64 (l[j].1 : Int)) := by
    have := congrArg (fun z => z[0]?) hd
    simpa using this
  have g1 : ys[j * 2 + 1]? = some (.int .i64 (l[j].2 : Int)) := by
    have := congrArg (fun z => z[1]?) hd
    simpa using this
  exact ⟨(own_cell ho _ (List.getElem?_eq_some_iff.1 g0).1).1.trans g0, (own_cell ho _ (List.getElem?_eq_some_iff.1 g1).1).1.trans g1⟩
theorem DelR.keep {W W' : World} {base g L nc : Nat} {l : List (Nat × Nat)} {bf i j : Nat} (h : DelR W base g L nc l bf i j) (hb : Below W.heap.size W W') : DelR W' base g L nc l bf i j := by
  obtain ⟨h1, ys, ho, h2⟩ := h
  exact ⟨h1, ys, own_blk ho fun k hk => hb.block k (World.ownsRow.lt ho k hk).2, h2⟩
theorem DelR.skip {W : World} {base g L nc : Nat} {l : List (Nat × Nat)} {bf i j : Nat} (h : DelR W base g L nc l bf i j) {t : Nat × Nat} (ht : l[j]? = some t) (hb : bf < t.2) : DelR W base g L nc l bf i (j + 1) := by
  obtain ⟨h1, ys, ho, h2, h3⟩ := h
  have e := keep_snoc bf l j t ht
  rw [if_neg (by omega), List.append_nil] at e
  refine ⟨by rw [e]; exact h1, ys, ho, by rw [e]; exact h2, ?_⟩
  rw [Nat.add_mul, ← List.drop_drop, h3, List.drop_eq_getElem_cons (List.getElem?_eq_some_iff.1 ht).1]
  rfl
theorem DelR.put {W : World} {base g L nc : Nat} {l : List (Nat × Nat)} {bf i j : Nat} (h : DelR W base g L nc l bf i j) (hij : i < j) {t : Nat × Nat} (ht : l[j]? = some t) (hb : t.2 ≤ bf) (hlen : l.length = L) :
    DelR ((W.setCell ⟨g, i * 2, none⟩ (.int .i64 (t.1 : Int))).setCell ⟨g, i * 2 + 1, none⟩ (.int .i64 (t.2 : Int))) base g L nc l bf (i + 1) (j + 1) := by
  obtain ⟨h1, ys, ho, h2, h3⟩ := h
  have hj := (List.getElem?_eq_some_iff.1 ht).1
  have hl := ho.1
  have e := keep_snoc bf l j t ht
  rw [if_pos hb] at e
  refine ⟨by rw [e, List.length_append]; simp [h1], (ys.set (i * 2) (.int .i64 (t.1 : Int))).set (i * 2 + 1) (.int .i64 (t.2 : Int)), own_putS (own_putS ho _ _) _ _, ?_, ?_⟩
  · rw [e, cellsT_snoc, ← h2]
    apply List.ext_getElem?
    intro q
    by_cases c1 : q < i * 2
    · rw [List.getElem?_take_of_lt (by omega), List.getElem?_set_ne (by omega), List.getElem?_set_ne (by omega), List.getElem?_append_left (by simp; omega), List.getElem?_take_of_lt c1]
    · have hlen2 : (ys.take (i * 2)).length = i * 2 := by simp; omega
      rw [List.getElem?_append_right (by omega), hlen2]
      by_cases c2 : q = i * 2
      · subst c2
        rw [List.getElem?_take_of_lt (by omega), List.getElem?_set_ne (by omega), List.getElem?_set_self (by omega)]
        simp
      · by_cases c3 : q = i * 2 + 1
        · subst c3
          rw [List.getElem?_take_of_lt (by omega), List.getElem?_set_self (by simp; omega)]
          simp
        · rw [List.getElem?_eq_none (by simp; omega), List.getElem?_eq_none (by simp; omega)]
  · rw [List.drop_set_of_lt (by omega), List.drop_set_of_lt (by omega), Nat.add_mul, ← List.drop_drop, h3, List.drop_eq_getElem_cons hj]
    rfl

set_option maxHeartbeats 4000000 in
theorem delete_any (W : World) (base b8 bf bt : Nat) (hb : At W b8 TSp [.int .i64 (bf : Int), .int .i64 (bt : Int)]) (na : Option Addr) (L nc : Nat) (l : List (Nat × Nat)) (h : W.ownsRow base TT 2 (.slice na L nc) L (cellsT l)) (hL : L ≤ 140000) (hbs : base ≤ W.heap.size) :
    Calls Tryd.prog 30 #[.slice na L nc, .func (.func 31) #[] #[.pointer (some ⟨b8, 0, none⟩)]] W (DelPost W base na nc l bf) := by
  have hlen : l.length = L := by have := h.1; rw [cellsT_len] at this; omega
  have HIX := Lib.hid (index_any W base b8 bf bt hb na L nc l h hL)
  have H := Lib.hid h
  have HB := Lib.hid hb
  have HL := Lib.hid hlen
  clear h hb hlen
  go_enter Tryd.func30, Tryd.ntmps30
  go_upto_region 1 with fail
  go_wp2_with (go_at_call 55; refine HIX.out.mono ?_)
  rintro e w1 ⟨hbw, ⟨rfl, hall⟩ | ⟨k, rfl, hk, hall, hkt⟩⟩
  · have hke := keep_all bf l hall
    have HKE := Lib.hid hke
    have HBW := Lib.hid hbw
    clear hke hbw hall
    go_wp2_with fail
    go_ret
    refine ⟨?_, ?_, ?_⟩
    · rw [HKE.out, HL.out]; rfl
    · rw [HKE.out, HL.out]
      exact own_blk H.out fun q hq => HBW.out.block q (World.ownsRow.lt H.out q hq).2
    · exact Up.below _ HBW.out hbs
  · rw [HL.out] at hk
    have HK := Lib.hid (And.intro hall hkt)
    have HBW := Lib.hid hbw
    clear hall hkt hbw
    have h1 : w1.ownsRow base TT 2 (.slice na L nc) L (cellsT l) := own_blk H.out fun q hq => HBW.out.block q (World.ownsRow.lt H.out q hq).2
    obtain ⟨g, c, hv⟩ := own_some h1 (by omega)
    simp only [Value.slice.injEq] at hv
    obtain ⟨rfl, _, rfl⟩ := hv
    have hLc := own_cap h1
    have hkn : ((k : Int) == -1) = false := by
      have : ¬ (k : Int) = -1 := by omega
      simp
    have hwk : IntKind.i64.wrap ((k : Int) + 1) = (k : Int) + 1 := IntWalk.i64_in _ (by omega)
    obtain ⟨t0, ht0⟩ : ∃ t, l[k]? = some t := ⟨l[k]'(by rw [HL.out]; exact hk), List.getElem?_eq_getElem _⟩
    have hR0 : DelR w1 base g L nc l bf k (k + 1) := by
      have e := keep_snoc bf l k t0 ht0
      have h2 := HK.out.2 t0 ht0
      rw [if_neg (by omega), List.append_nil, keep_all bf (l.take k) HK.out.1] at e
      refine ⟨by rw [e]; simp [HL.out]; omega, cellsT l, h1, ?_, ?_⟩
      · rw [e]
        have hsp : cellsT l = cellsT (l.take k) ++ cellsT (l.drop k) := by rw [← cellsT_append, List.take_append_drop]
        rw [hsp, List.take_left' (by rw [cellsT_len]; simp [HL.out]; omega)]
      · have hsp : cellsT l = cellsT (l.take (k + 1)) ++ cellsT (l.drop (k + 1)) := by rw [← cellsT_append, List.take_append_drop]
        rw [hsp, List.drop_left' (by rw [cellsT_len]; simp [HL.out]; omega)]
    have hF0 : Up W w1 base (fun q => (Value.slice (some ⟨g, 0, none⟩) 0 0).ownBlock = some q) (fun q => (Value.slice (some ⟨g, 0, none⟩) 0 0).ownBlock = some q) := Up.below _ HBW.out hbs
    have hgb : base ≤ g := (World.ownsRow.lt h1 g rfl).1
    have hb8g : b8 ≠ g := fun e => HB.out.ne_own H.out (by decide) (by rw [e]; rfl)
    have HR0 := Lib.hid hR0
    have HF0 := Lib.hid hF0
    have HB1 := Lib.hid (HB.out.below HBW.out)
    have HG := Lib.hid (And.intro hgb hb8g)
    clear h1 hR0 hF0 ht0 hgb hb8g
    go_wp2_with fail
    go_loopw [5, 6] (fun vi vj wr => ∃ i j, k + 1 ≤ j ∧ j ≤ L ∧ i < j ∧ vi = .int .i64 (i : Int) ∧ vj = .int .i64 (j : Int) ∧ DelR wr base g L nc l bf i j ∧ At wr b8 TSp [.int .i64 (bf : Int), .int .i64 (bt : Int)] ∧ Up W wr base (fun q => (Value.slice (some ⟨g, 0, none⟩) 0 0).ownBlock = some q) (fun q => (Value.slice (some ⟨g, 0, none⟩) 0 0).ownBlock = some q)) (fun _ vj _ => L - (intOf vj).toNat)
    case atStart => exact ⟨k, k + 1, Nat.le_refl _, hk, Nat.lt_succ_self _, rfl, by simp, HR0.out, HB1.out, HF0.out⟩
    case round =>
      obtain ⟨i, j, hkj, hjL, hij, rfl, rfl, hr, hb8, hup⟩ := hrel
      have HR := Lib.hid hr
      have HB8 := Lib.hid hb8
      have HUP := Lib.hid hup
      have hbw : base ≤ wr.heap.size := Nat.le_trans hbs hup.size
      clear hr hb8 hup
      by_cases hlt : j < L
      · obtain ⟨t, ht⟩ : ∃ t, l[j]? = some t := ⟨l[j]'(by rw [HL.out]; exact hlt), List.getElem?_eq_getElem _⟩
        obtain ⟨c0, c1⟩ := HR.out.thread ht
        have hjI : (j : Int) < (L : Int) := by omega
        have hiI : (i : Int) < (L : Int) := by omega
        have hb1 := (Below.refl wr.heap.size wr).alloc (Nat.le_refl _) (.cells #[.int .i64 (t.1 : Int), .int .i64 (t.2 : Int)] TT)
        have hA7 : At (wr.alloc (.cells #[.int .i64 (t.1 : Int), .int .i64 (t.2 : Int)] TT)) wr.heap.size TT [.int .i64 (t.1 : Int), .int .i64 (t.2 : Int)] := At.new wr _ _
        have hgl : g < wr.heap.size := by obtain ⟨_, ys, ho, _⟩ := HR.out; exact (World.ownsRow.lt ho g rfl).2
        have HA7 := Lib.hid hA7
        have HR1 := Lib.hid (HR.out.keep hb1)
        have HB9 := Lib.hid (HB8.out.below hb1)
        have HU1 := Lib.hid (HUP.out.trans (Up.below _ hb1 hbw))
        have HT := Lib.hid ht
        have HGL := Lib.hid hgl
        clear hb1 hA7 ht hgl
        go_upto_region 8 with fail
        clear c0 c1 HR HB8 HUP
        generalize wr.alloc (.cells #[.int .i64 (t.1 : Int), .int .i64 (t.2 : Int)] TT) = w2 at HA7 HR1 HB9 HU1 ⊢
        generalize wr.heap.size = b7 at HA7 HGL hbw ⊢
        have hw2 : base ≤ w2.heap.size := Nat.le_trans hbs HU1.out.size
        have c0 : w2.cell? ⟨b7, 0, none⟩ = some (.int .i64 (t.1 : Int)) := HA7.out.cell 0
        have c1 : w2.cell? ⟨b7, 1, none⟩ = some (.int .i64 (t.2 : Int)) := HA7.out.cell 1
        have HD := Lib.hid (del_any w2 b8 bf bt t.1 t.2 HB9.out)
        go_upto_region 9 with (go_at_call 31; refine HD.out.mono ?_)
        rintro e w3 ⟨rfl, hbn⟩
        have HR3 := Lib.hid (HR1.out.keep hbn)
        have HB3 := Lib.hid (HB9.out.below hbn)
        have HU3 := Lib.hid (HU1.out.trans (Up.below _ hbn hw2))
        have HA3 := Lib.hid (HA7.out.below hbn)
        clear c0 c1 HR1 HB9 HU1 HA7 hbn HD
        have hwj : IntKind.i64.wrap ((j : Int) + 1) = (j : Int) + 1 := IntWalk.i64_in _ (by omega)
        by_cases hd : bf < t.2
        · have hdb : decide (bf < t.2) = true := decide_eq_true hd
          rw [hdb]
          have HDD := Lib.hid hd
          clear hd hdb
          go_wp2_with fail
          go_roundw
          case rel => exact ⟨i, j + 1, by omega, hlt, by omega, rfl, by go_num, HR3.out.skip HT.out HDD.out, HB3.out, HU3.out⟩
          case measure => simp [intOf]; omega
        · have hdb : decide (bf < t.2) = false := decide_eq_false hd
          rw [hdb]
          have HDD := Lib.hid hd
          clear hd hdb
          have c0 : w3.cell? ⟨b7, 0, none⟩ = some (.int .i64 (t.1 : Int)) := HA3.out.cell 0
          have c1 : w3.cell? ⟨b7, 1, none⟩ = some (.int .i64 (t.2 : Int)) := HA3.out.cell 1
          have hwi : IntKind.i64.wrap ((i : Int) + 1) = (i : Int) + 1 := IntWalk.i64_in _ (by omega)
          obtain ⟨u0, u1, d0, d1, f0, f1⟩ : ∃ u0 u1, w3.cell? ⟨g, i * 2, none⟩ = some u0 ∧ w3.cell? ⟨g, i * 2 + 1, none⟩ = some u1 ∧ w3.frozen? ⟨g, i * 2, none⟩ = false ∧ w3.frozen? ⟨g, i * 2 + 1, none⟩ = false := by
            obtain ⟨_, ys, ho, _⟩ := HR3.out
            have hl := ho.1
            have h0 := own_cell ho (i * 2) (by omega)
            have h1 := own_cell ho (i * 2 + 1) (by omega)
            rw [List.getElem?_eq_getElem (by omega)] at h0 h1
            exact ⟨_, _, h0.1, h1.1, h0.2, h1.2⟩
          have HP := Lib.hid (HR3.out.put hij HT.out (by have := HDD.out; omega) HL.out)
          have hgl3 : g < w3.heap.size := by obtain ⟨_, ys, ho, _⟩ := HR3.out; exact (World.ownsRow.lt ho g rfl).2
          have hU4 : Up w3 ((w3.setCell ⟨g, i * 2, none⟩ (.int .i64 (t.1 : Int))).setCell ⟨g, i * 2 + 1, none⟩ (.int .i64 (t.2 : Int))) base (fun q => (Value.slice (some ⟨g, 0, none⟩) 0 0).ownBlock = some q) (fun q => (Value.slice (some ⟨g, 0, none⟩) 0 0).ownBlock = some q) :=
            (Up.setf (w := w3) (i := i * 2) (x := .int .i64 (t.1 : Int)) (fun q => (Value.slice (some ⟨g, 0, none⟩) 0 0).ownBlock = some q) rfl HG.out.1).trans (Up.setf (i := i * 2 + 1) (x := .int .i64 (t.2 : Int)) (fun q => (Value.slice (some ⟨g, 0, none⟩) 0 0).ownBlock = some q) rfl HG.out.1)
          have hB4 : At ((w3.setCell ⟨g, i * 2, none⟩ (.int .i64 (t.1 : Int))).setCell ⟨g, i * 2 + 1, none⟩ (.int .i64 (t.2 : Int))) b8 TSp [.int .i64 (bf : Int), .int .i64 (bt : Int)] := HB3.out.keep (hU4.keep b8 HB3.out.lt fun e => HG.out.2 (by simpa [Value.ownBlock] using e.symm))
          have HU4 := Lib.hid (HU3.out.trans hU4)
          have HB4 := Lib.hid hB4
          clear hU4 hB4 hgl3
          go_wp2_with fail
          go_roundw
          case rel => exact ⟨i + 1, j + 1, by omega, hlt, by omega, by go_num, by go_num, HP.out, HB4.out, HU4.out⟩
          case measure => simp [intOf]; omega
      · have e0 : j = L := by omega
        have HE := Lib.hid e0
        have hjI : ¬ (j : Int) < (L : Int) := by omega
        have hiL : i < L := by omega
        have hcl := cutLo wr g L nc i hiL hLc
        have hch := fun W => cutHi W g L nc i (by omega)
        have hil : i = (keepL bf l).length := by
          have := HR.out.1
          rw [e0, ← HL.out, List.take_length] at this
          exact this
        have HIL := Lib.hid hil
        clear e0 hil
        obtain ⟨ys, ho, hy1, -⟩ := HR.out.2
        have hyl := ho.1
        have hrun : ∀ ty, (Builtin.clear_ #[85] ty #[.slice (some ⟨g, i * 2, none⟩) (L - i) (nc - i)]).run Tryd.prog wr = .ok (.tuple #[]) (wr.setCells g (i * 2) (List.replicate ((L - i) * 2) (.int .i64 0))) := fun ty => clearT wr ty g (i * 2) (L - i) (nc - i) (by omega) (fun q hq => by
            have h0 := own_cell ho (i * 2 + q) (by omega)
            rw [List.getElem?_eq_getElem (by omega)] at h0
            rw [h0.1]; rfl) (fun q hq => (own_cell ho (i * 2 + q) (by omega)).2)
        have hfin : (wr.setCells g (i * 2) (List.replicate ((L - i) * 2) (.int .i64 0))).ownsRow base TT 2 (.slice (some ⟨g, 0, none⟩) i nc) i (cellsT (keepL bf l)) ∧ Up wr (wr.setCells g (i * 2) (List.replicate ((L - i) * 2) (.int .i64 0))) base (fun q => (Value.slice (some ⟨g, 0, none⟩) 0 0).ownBlock = some q) (fun q => (Value.slice (some ⟨g, 0, none⟩) 0 0).ownBlock = some q) := by
          rw [HE.out, ← HL.out, List.take_length] at hy1
          rcases ho.2 with ⟨h1, _⟩ | ⟨g', cap, cur, h1, hb, hg, hnc, hcm, hs, hta⟩
          · simp at h1
          simp only [Value.slice.injEq, Option.some.injEq, Addr.mk.injEq, and_true, true_and] at h1
          obtain ⟨rfl, rfl⟩ := h1
          have hfit : i * 2 + (List.replicate ((L - i) * 2) (Value.int .i64 0)).length ≤ cur.size := by simp; omega
          obtain ⟨a1, -⟩ := setCells_all g TT (List.replicate ((L - i) * 2) (.int .i64 0)) (i * 2) wr cur hg hfit
          refine ⟨⟨by rw [cellsT_len, HIL.out], .inr ⟨g, nc, _, rfl, hb, a1, by omega, hcm, ?_, ?_⟩⟩, setCells_up wr g (i * 2) base _ TT cur hg hfit _ rfl hb⟩
          · simp; omega
          · rw [← hy1, ← hta, List.take_take]
            simp only [List.append_assoc]
            rw [List.take_append_of_le_length (by simp; omega), List.take_take, Nat.min_self, Nat.min_eq_left (by omega)]
        have HFN := Lib.hid hfin
        clear hfin hyl hy1 ho
        generalize wr.setCells g (i * 2) (List.replicate ((L - i) * 2) (.int .i64 0)) = wf at hrun HFN
        go_wp2_with fail
        go_ret
        have hfn := HFN.out.1
        have hu := HUP.out.trans HFN.out.2
        rw [HIL.out] at hfn
        exact ⟨by rw [← HIL.out]; rfl, hfn, hu⟩
end Go.Proofs.YtfmcjmkdlldlhaaDoor
