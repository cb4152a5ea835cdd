/-
  galleyref02.Show: its walk; it answers what quote.Show answers.
-/
import Derived.Test.YtboikhalfffioaaDoorSw
import Derived.Test.YtboikhalfffioaaDoorApp
namespace Go.Proofs.YtboikhalfffioaaDoor
open Go.RowKit

theorem unfair_two (l : List UInt8) (h : 2 ≤ wid l) (hf : ¬ fairR ((Lib.decodeL l).1 : Int) = true) : wid l = 2 ∧ ∃ x y t, l = x :: y :: t ∧ 128 ≤ y.toNat ∧ y.toNat < 192 := by
  have hw := wid_ok (l := l) (by omega)
  have hne : l ≠ [] := fun e => by subst e; exact absurd h (by decide +kernel)
  have hl := wid_len hne
  rw [Lib.decodeL_N] at hw hf
  rcases Lib.decodeN_shape l.length (l.getD 0 0).toNat (l.getD 1 0).toNat (l.getD 2 0).toNat (l.getD 3 0).toNat with ⟨c, e⟩ | ⟨c1, c2, c3, cv, e⟩ | ⟨c1, c2, c3, c4, cv, cs, e⟩ | ⟨c1, c2, c3, c4, c5, cv, cw, e⟩ | e
  · rw [e] at hw; dsimp only at hw; omega
  · rw [e] at hw
    dsimp only at hw
    refine ⟨hw, ?_⟩
    match l, hl, c3 with
    | x :: y :: t, _, c3 => exact ⟨x, y, t, rfl, by simp at c3; omega, by simp at c3; omega⟩
    | [x], hl, _ => simp at hl; omega
    | [], hl, _ => simp at hl; omega
  · rw [e] at hf
    exfalso; apply hf
    clear hw e hf
    generalize (l.getD 0 0).toNat = b0 at *
    generalize (l.getD 1 0).toNat = b1 at *
    generalize (l.getD 2 0).toNat = b2 at *
    simp [fairR]
    omega
  · rw [e] at hf
    exfalso; apply hf
    clear hw e hf
    generalize (l.getD 0 0).toNat = b0 at *
    generalize (l.getD 1 0).toNat = b1 at *
    generalize (l.getD 2 0).toNat = b2 at *
    generalize (l.getD 3 0).toNat = b3 at *
    simp [fairR]
    omega
  · rw [e] at hw; dsimp only at hw; omega
/-- The body, whole. -/
def bd (l : List UInt8) : List UInt8 := bodyL l.length l
theorem bd_cons {l : List UInt8} (h : l ≠ []) : bd l = oneL l ++ bd (l.drop (Lib.decodeL l).2) := by
  have hw := wid_le l h
  have hp := List.length_pos_iff.2 h
  unfold bd
  obtain ⟨n, hn⟩ : ∃ n, l.length = n + 1 := ⟨l.length - 1, by omega⟩
  rw [hn]
  conv => lhs; unfold bodyL
  rw [if_neg h, body_fuel n (l.drop (Lib.decodeL l).2).length _ (by rw [List.length_drop]; omega) (Nat.le_refl _)]
/-- Show, a byte after the other. -/
theorem bd_step {l : List UInt8} (h : l ≠ []) : bd l = if 0 < wid l ∧ fairR ((Lib.decodeL l).1 : Int) = true then l.take (wid l) ++ bd (l.drop (wid l)) else escL (l.getD 0 0) ++ bd (l.drop 1) := by
  have hd := dec2_max h
  have hw := wid_le l h
  rw [bd_cons h]
  by_cases hc : 0 < wid l ∧ fairR ((Lib.decodeL l).1 : Int) = true
  · rw [if_pos hc, oneL, if_pos hc, hd, Nat.max_eq_left (by omega)]
  · rw [if_neg hc, oneL, if_neg hc, hd]
    obtain ⟨x, t, rfl⟩ := List.exists_cons_of_ne_nil h
    by_cases h2 : 2 ≤ wid (x :: t)
    · obtain ⟨hw2, x', y, t', e, y1, y2⟩ := unfair_two _ h2 (fun hf => hc ⟨by omega, hf⟩)
      simp only [List.cons.injEq] at e
      obtain ⟨rfl, rfl⟩ := e
      rw [hw2]
      have hy : wid (y :: t') = 0 := wid0 _ (by simpa using y1) (.inl (by simpa using y2))
      have hbd : bd (y :: t') = escL y ++ bd t' := by
        have hdy := dec2_max (l := y :: t') (by simp)
        rw [bd_cons (by simp), hdy, oneL, hy, if_neg (by omega)]
        simp
      show List.flatMap escL (List.take 2 (x :: y :: t')) ++ bd (List.drop 2 (x :: y :: t')) = escL x ++ bd (y :: t')
      rw [hbd]
      simp
    · rw [show max (wid (x :: t)) 1 = 1 by omega]
      simp
theorem show_bd (l : List UInt8) : showL l = 34 :: (bd l ++ [34]) := rfl
/-- The loop of Show. -/
structure RsI (w wr : World) (B : Nat) (v : Value) (l : List UInt8) (n p : Nat) (acc : List UInt8) : Prop where
  own : OwnB wr B v (bI acc)
  bel : Below B w wr
  eq : acc ++ (bd (l.drop p) ++ [34]) = showL l
  le : p ≤ n
  len : acc.length ≤ 1 + 4 * p
theorem bI_append (a b : List UInt8) : bI (a ++ b) = bI a ++ bI b := List.map_append
theorem bI_drop (l : List UInt8) (p k : Nat) : ((bI l).drop p).take k = bI ((l.drop p).take k) := by unfold bI; rw [List.map_take, List.map_drop]
theorem strCells_bI (l : List UInt8) : Lib.strCells ⟨l.toArray⟩ = (bI l).map (Value.int .u8) := by
  rw [Lib.strCells_eq]
  simp [Lib.byteCells, bI]
theorem bI_out (l : List UInt8) : strI (bI l) = ⟨l.toArray⟩ := by
  have := bI_str l
  cases h : strI (bI l) with
  | mk d => rw [h] at this; simp at this; rw [← this]
/-- append(out, t...), t a string. -/
theorem append_str {ops : Array Oper} {rest : List Oper} {o : Oper} {a : Act} {w : World} {Q : Exit → Act → World → Prop} (hgd : o.guard = none) (s x : Operand)
    (ho : o.op = .call { callee := .builtin .append, args := #[s, x], argTypes := #[23, 9] })
    (base : Nat) (v : Value) (xs t : List UInt8) (hs : a.eval s = v) (hown : OwnB w base v (bI xs)) (hx : a.eval x = .string ⟨t.toArray⟩) (hsum : xs.length + t.length ≤ 140737488355328) (hbase : base ≤ w.heap.size)
    (h : ∀ v' w', OwnB w' base v' (bI (xs ++ t)) → (∀ w0, Below base w0 w → Below base w0 w') → wpList Tryd.prog ops Q rest (a.put o.dst v') w') :
    wpList Tryd.prog ops Q (o :: rest) a w := by
  obtain ⟨i0, hi, hz0, hz1, hz2⟩ := info_parts infoB
  have hsz : (⟨t.toArray⟩ : ByteArray).size = t.length := by simp [ByteArray.size]
  refine Lib.wpList_append_own_string _ hgd s x 23 9 ho base 5 i0 Tryd.underlying23 Tryd.underlying9 hi hz0 hz1 hz2 v _ _ hs hown _ hx ?_ ?_ hbase ?_
  · rw [hsz, bI_len]; unfold maxLen; omega
  · rw [hsz, bI_len]; omega
  · intro v' w' hown' hgrow _
    refine h v' w' ?_ fun w0 hb => hb.grown hgrow (by have := hb.size; omega) fun k hk => (World.ownsRow.lt hown k hk).1
    unfold OwnB
    rw [bI_append, List.length_append, List.map_append, bI_len t, ← strCells_bI t, ← hsz]
    exact hown'
theorem OwnB.lit1 (w : World) (x : Int) : OwnB (w.alloc (.cells #[.int .u8 x] 5)) w.heap.size (.slice (some ⟨w.heap.size, 0, none⟩) 1 1) [x] :=
  ⟨rfl, .inr ⟨w.heap.size, 1, #[.int .u8 x], rfl, Nat.le_refl _, heap_alloc_new w _, Nat.le_refl _, by unfold maxLen; omega, rfl, rfl⟩⟩

set_option maxHeartbeats 1000000 in
set_option maxRecDepth 100000 in
theorem refShow_any (w : World) (a : Option Addr) (n c : Nat) (l : List UInt8) (hA : SB w (.slice a n c) (bI l)) (hnc : n ≤ c) (hN : a = none → c = 0) (hn : n ≤ 8796093022000) :
    Calls Tryd.prog 27 #[.slice a n c] w fun e w' => e = .returned (.string ⟨(showL l).toArray⟩) ∧ Below w.heap.size w w' := by
  obtain ⟨hl, -⟩ := hA.len
  rw [bI_len] at hl
  have HA := Lib.hid hA
  have HL := Lib.hid hl
  have HN := Lib.hid hN
  have HO1 := Lib.hid (OwnB.lit1 w 34)
  have HB1 := Lib.hid (boxL w (.cells #[.int .u8 34] 5))
  have HSH := Lib.hid (show_bd l)
  clear hA hl hN
  go_enter Tryd.func27, Tryd.ntmps27
  go_upto_region 2 with fail
  have HI : Hid (RsI w (w.alloc (.cells #[.int .u8 34] 5)) w.heap.size (.slice (some ⟨w.heap.size, 0, none⟩) 1 1) l n 0 [34]) := Lib.hid
    ⟨HO1.out, HB1.out, by rw [HSH.out]; rfl, by omega, by simp⟩
  clear HO1 HB1
  generalize w.alloc (.cells #[.int .u8 34] 5) = w1 at HI ⊢
  generalize (Value.slice (some ⟨w.heap.size, 0, none⟩) 1 1) = v1 at HI ⊢
  go_wp2_with fail
  go_loopw [3, 4] (fun v3 v4 wr => ∃ (p : Nat) (acc : List UInt8), v4 = .int .i64 (p : Int) ∧ RsI w wr w.heap.size v3 l n p acc) (fun _ v4 _ => n - (intOf v4).toNat)
  case atStart => exact ⟨0, _, rfl, HI.out⟩
  case round =>
    clear HI
    obtain ⟨p, acc, rfl, hI⟩ := hrel
    have HI := Lib.hid hI
    clear hI
    by_cases hp : p < n
    · have d1 : decide ((p : Int) < (n : Int)) = true := decide_eq_true (by omega)
      have HAR := Lib.hid (HA.out.below (Below.mono HI.out.bel (Nat.le_refl _)))
      have HSZ := Lib.hid (refSize_any wr a n c l HAR.out p hp)
      have hne : l.drop p ≠ [] := fun e => by have := congrArg List.length e; rw [List.length_drop, List.length_nil, HL.out] at this; omega
      have HST := Lib.hid (bd_step hne)
      have hwl := wid_len hne
      rw [List.length_drop, HL.out] at hwl
      have HFQ := Lib.hid (fairL_eq (l.drop p))
      have HFA : Hid (∀ k, 1 ≤ k → p + k ≤ n → Calls Tryd.prog 59 #[.slice a n c, .int .i64 (p : Int), .int .i64 (k : Int)] wr fun e w' => e = .returned (.bool (fairL (l.drop p) k)) ∧ w' = wr) := Lib.hid fun k h1 h2 => refFair_any wr a n c l HAR.out p k h1 h2
      have HEQ := Lib.hid HI.out.eq
      have HLN := Lib.hid HI.out.len
      clear hne
      go_upto_region 4 with fail
      generalize hk : wid (l.drop p) = k at HSZ HST hwl HFQ
      clear hk
      go_wp2_with (go_at_call 54; refine HSZ.out.mono ?_)
      rintro e w2 ⟨rfl, rfl⟩
      go_upto_region 5 with fail
      go_cut [22] (fun v wx => v = .bool (decide (0 < k) && fairR ((Lib.decodeL (l.drop p)).1 : Int)) ∧ wx = w2)
      case first =>
        by_cases hk0 : 0 < k
        · have hd : decide ((0 : Int) < (k : Int)) = true := decide_eq_true (by omega)
          have HF1 := Lib.hid (HFA.out k hk0 (by omega))
          go_wp2_with (go_at_call 59; refine HF1.out.mono ?_)
          rintro e w5 ⟨rfl, rfl⟩
          go_wp2_with fail
          go_meet
          case rel => exact ⟨by rw [decide_eq_true hk0, Bool.true_and, HFQ.out hk0], rfl⟩
        · have hd : decide ((0 : Int) < (k : Int)) = false := decide_eq_false (by omega)
          go_wp2_with fail
          go_meet
          case rel => exact ⟨by rw [decide_eq_false hk0, Bool.false_and], rfl⟩
      case rest =>
        obtain ⟨rfl, rfl⟩ := hcut
        by_cases hA : 0 < k ∧ fairR ((Lib.decodeL (l.drop p)).1 : Int) = true
        · have hd : (decide (0 < k) && fairR ((Lib.decodeL (l.drop p)).1 : Int)) = true := by rw [decide_eq_true hA.1, hA.2]; rfl
          have HS1 := Lib.hid (HST.out.trans (if_pos hA))
          have hk0 := hA.1
          rw [hd]
          clear hd hA HST HFQ
          obtain ⟨ad, hrun, hsb, -, hsl⟩ := HAR.out.cut p (p + k) (by omega) (by omega) hnc
          have had : ad = none → c - p = 0 := fun e => by
            exfalso
            obtain ⟨b, o, ha, -⟩ := HAR.out.read p hp
            subst ha
            simp only [sliced, Value.slice.injEq] at hsl
            rw [if_neg (by omega), e] at hsl
            simp at hsl
          rw [Int.natCast_add] at hrun
          rw [bI_drop, show p + k - p = k by omega] at hsb
          rw [show p + k - p = k by omega] at hrun
          have HSB := Lib.hid hsb
          have HAD := Lib.hid had
          clear hsb had hsl
          have hln := HLN.out
          have HL3 : Hid ((acc ++ (l.drop p).take k).length ≤ 1 + 4 * (p + k)) := Lib.hid (by rw [List.length_append, List.length_take]; omega)
          have hl3 : (bI acc).length + k ≤ 140737488355328 := by rw [bI_len]; omega
          have hO := Lib.hid HI.out.own
          have HSZ3 : Hid (w.heap.size ≤ wc.heap.size) := Lib.hid HI.out.bel.size
          have HE3 : Hid (acc ++ (l.drop p).take k ++ (bd (l.drop (p + k)) ++ [34]) = showL l) := Lib.hid (by rw [← HEQ.out, HS1.out, List.drop_drop]; simp only [List.append_assoc])
          have hpk : (p : Int) + (k : Int) ≤ (n : Int) := by omega
          clear hln
          go_wp2_with (at_builtin; refine append_sbp rfl (.tmp 23) (.tmp 29) rfl w.heap.size _ (bI acc) (bI ((l.drop p).take k)) ad k (c - p) rfl hO.out rfl HAD.out HSB.out hl3 HSZ3.out ?_)
          intro v5 w5 ho hA5
          have HI5 : Hid (RsI w w5 w.heap.size v5 l n (p + k) (acc ++ (l.drop p).take k)) := Lib.hid ⟨by rw [bI_append]; exact ho, hA5.bel _ _ HI.out.bel (Nat.le_refl _), HE3.out, by omega, HL3.out⟩
          clear ho hA5
          go_wp2_with fail
          go_roundw
          case rel => exact ⟨p + k, _, by rw [Int.natCast_add], HI5.out⟩
          case measure => simp only [intOf]; omega
        · have hd : (decide (0 < k) && fairR ((Lib.decodeL (l.drop p)).1 : Int)) = false := by
            cases hdd : (decide (0 < k) && fairR ((Lib.decodeL (l.drop p)).1 : Int)) with
            | false => rfl
            | true =>
              rw [Bool.and_eq_true, decide_eq_true_eq] at hdd
              exact absurd hdd hA
          have HS1 := Lib.hid (HST.out.trans (if_neg hA))
          rw [hd]
          clear hd hA HST HFQ
          obtain ⟨b, o, rfl, hr⟩ := HAR.out.read p hp
          have h0 := hr p hp
          rw [bI_at l p (by rw [HL.out]; exact hp)] at h0
          rw [show (l.drop p).getD 0 0 = l.getD p 0 by simp [List.getD]] at HS1
          generalize l.getD p 0 = x at h0 HS1
          clear hr
          have HBT := Lib.hid (refByte_any x wc)
          go_upto_region 8 with fail
          go_wp2_with (go_at_call 60; refine HBT.out.mono ?_)
          rintro e w3 ⟨rfl, q, rfl⟩
          have HB3 := Lib.hid (below_drewN HI.out.bel q)
          have HO3 := Lib.hid (HI.out.own.below (below_drewN (Below.refl _ wc) q))
          have hln := HLN.out
          have hel := escL_len x
          have HL3 : Hid (acc.length + (escL x).length ≤ 1 + 4 * (p + 1)) := Lib.hid (by omega)
          have hl3 : acc.length + (escL x).length ≤ 140737488355328 := by omega
          have HSZ3 : Hid (w.heap.size ≤ (wc.drewN q).heap.size) := Lib.hid HB3.out.size
          have HE3 : Hid (acc ++ escL x ++ (bd (l.drop (p + 1)) ++ [34]) = showL l) := Lib.hid (by rw [← HEQ.out, HS1.out, List.drop_drop]; simp only [List.append_assoc])
          clear h0 hln hel
          generalize wc.drewN q = w3 at HB3 HO3 HSZ3 ⊢
          go_wp2_with (at_builtin; refine append_str rfl (.tmp 39) (.tmp 40) rfl w.heap.size _ acc (escL x) rfl HO3.out rfl hl3 HSZ3.out ?_)
          intro v5 w5 ho hb
          have HI5 : Hid (RsI w w5 w.heap.size v5 l n (p + 1) (acc ++ escL x)) := Lib.hid ⟨ho, hb _ HB3.out, HE3.out, by omega, by rw [List.length_append]; exact HL3.out⟩
          clear ho hb
          go_wp2_with fail
          go_roundw
          case rel => exact ⟨p + 1, _, rfl, HI5.out⟩
          case measure => simp only [intOf]; omega
    · have d1 : decide ((p : Int) < (n : Int)) = false := decide_eq_false (by omega)
      have HE : Hid (acc ++ [34] = showL l) := Lib.hid (by
        rw [← HI.out.eq, List.drop_eq_nil_of_le (by rw [HL.out]; omega)]
        rfl)
      have hln := HI.out.len
      have hle := HI.out.le
      have hl3 : (bI acc).length + 1 ≤ 140737488355328 := by rw [bI_len]; omega
      have HSZ3 : Hid (w.heap.size ≤ wr.heap.size) := Lib.hid HI.out.bel.size
      go_wp2_with (at_builtin; refine append_b1 rfl (.tmp 44) (.tmp 45) rfl w.heap.size _ (bI acc) 34 rfl HI.out.own rfl hl3 HSZ3.out ?_)
      intro v5 w5 ho hA5
      have HO5 : Hid (OwnB w5 w.heap.size v5 (bI (showL l))) := Lib.hid (by rw [← HE.out, bI_append]; exact ho)
      have HB5 : Hid (Below w.heap.size w w5) := Lib.hid (hA5.bel _ _ HI.out.bel (Nat.le_refl _))
      obtain ⟨a5, c5, rfl⟩ := HO5.out.shape
      have hcv := run_strI w5 a5 _ c5 _ (HO5.out.sb (bI_isB _) (by rw [bI_len, ← HE.out, List.length_append, List.length_singleton]; omega))
      rw [bI_out] at hcv
      generalize (bI (showL l)).length = m5 at hcv ⊢
      clear ho hA5 hln hle
      go_wp2_with fail
      go_ret
      exact ⟨rfl, HB5.out⟩
end Go.Proofs.YtboikhalfffioaaDoor
