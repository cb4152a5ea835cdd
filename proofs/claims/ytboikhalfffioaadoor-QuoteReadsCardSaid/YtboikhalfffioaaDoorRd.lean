/-
  quote.read: its walk.
-/
import Derived.Test.YtboikhalfffioaaDoorNx
import Derived.Test.YtboikhalfffioaaDoorApp
namespace Go.Proofs.YtboikhalfffioaaDoor
open Go.RowKit

/-- What is read of a text between the quotes. -/
def readF : Nat → List UInt8 → Option (List UInt8)
  | 0, _ => some []
  | n + 1, l => if l = [] then some [] else if (nextL l).2 = 0 then none else (readF n (l.drop (nextL l).2)).map ((nextL l).1 :: ·)
/-- The bytes of a text of Show; none: there are none. -/
def readL (l : List UInt8) : Option (List UInt8) :=
  if l.length < 2 then none
  else match readF l.length ((l.drop 1).take (l.length - 2)) with
    | none => none
    | some b => if showL b = l then some b else none
def bI (l : List UInt8) : List Int := l.map fun x => (x.toNat : Int)
theorem bI_isB (l : List UInt8) : IsB (bI l) := fun i => by
  unfold bI
  rw [List.getElem?_map]
  cases h : l[i]? with
  | none => simp
  | some x => have := x.toNat_lt; simp; omega
theorem bI_str (l : List UInt8) : (strI (bI l)).data.toList = l := by
  unfold strI bI
  simp [Function.comp_def]
theorem bI_len (l : List UInt8) : (bI l).length = l.length := List.length_map _
theorem next_le (l : List UInt8) (h : l ≠ []) : (nextL l).2 ≤ l.length := by
  have hl : 0 < l.length := List.length_pos_iff.2 h
  unfold nextL
  repeat' split
  all_goals (first | (simp only []; omega) | omega)
/-- The variable errNone. -/
structure ErrW (w : World) (v : Value) : Prop where
  cell : w.cell? ⟨0, 0, none⟩ = some v
theorem ErrW.below {w w' : World} {v : Value} (h : ErrW w v) (hb : Below w.heap.size w w') : ErrW w' v :=
  ⟨(hb.cell (World.block_lt_of_cell? w _ h.cell)).trans h.cell⟩
/-- What read hands back. -/
def RdPost (l : List UInt8) (ev : Value) (w : World) (e : Ending) (w' : World) : Prop :=
  Below w.heap.size w w' ∧ ((readL l = none ∧ e = .returned (.tuple #[.slice none 0 0, ev])) ∨ ∃ b v, readL l = some b ∧ e = .returned (.tuple #[v, .nilIface]) ∧ OwnB w' w.heap.size v (bI b))
/-- The loop of read. -/
structure RdI (w wr : World) (B : Nat) (vb : Value) (pre : List UInt8) (t : ByteArray) (f n0 : Nat) (R : Option (List UInt8)) : Prop where
  own : OwnB wr B vb (bI pre)
  bel : Below B w wr
  sz : B ≤ wr.heap.size
  eq : R = (readF f t.data.toList).map (pre ++ ·)
  fu : t.size ≤ f
  len : pre.length + t.size ≤ n0

set_option maxHeartbeats 1000000 in
set_option maxRecDepth 100000 in
theorem read_any (w : World) (ev : Value) (hw : ErrW w ev) (s : ByteArray) (hb : s.size ≤ 8796093022000) : Calls Tryd.prog 24 #[.string s] w (RdPost s.data.toList ev w) := by
  have hlen : s.data.toList.length = s.size := dataL s
  have HL := Lib.hid hlen
  have HW := Lib.hid hw
  clear hlen hw
  go_enter Tryd.func24, Tryd.ntmps24
  by_cases h2 : s.size < 2
  · have hd : decide ((s.size : Int) < 2) = true := decide_eq_true (by omega)
    have c0 := HW.out.cell
    go_upto_region 2 with fail
    go_quiet (fail)
    go_wp2_with fail
    go_ret2
    exact ⟨below_drewN (Below.refl _ _) _, .inl ⟨by rw [readL, if_pos (by rw [HL.out]; exact h2)], rfl⟩⟩
  · have hd : decide ((s.size : Int) < 2) = false := decide_eq_false (by omega)
    have hR : readL s.data.toList = match readF s.size ((s.data.toList.drop 1).take (s.size - 2)) with
        | none => none
        | some b => if showL b = s.data.toList then some b else none := by rw [readL, if_neg (by rw [HL.out]; exact h2), HL.out]
    have HR := Lib.hid hR
    clear hR
    have hs1 : (1 : Int) ≤ (s.size : Int) - 1 := by omega
    go_upto_region 4 with fail
    go_wp2_with fail
    obtain ⟨t0, ht0⟩ : ∃ t0, s.extract 1 (s.size - 1) = t0 := ⟨_, rfl⟩
    have htl : t0.data.toList = (s.data.toList.drop 1).take (s.size - 2) := by rw [← ht0, extract_list]; congr 1
    have hts : t0.size = s.size - 2 := by rw [← dataL, htl, List.length_take, List.length_drop, HL.out]; omega
    obtain ⟨n0, hn0⟩ : ∃ n0, s.size = n0 := ⟨_, rfl⟩
    have HI : Hid (RdI w w w.heap.size (.slice none 0 0) [] t0 s.size n0 (readF s.size ((s.data.toList.drop 1).take (s.size - 2)))) := Lib.hid
      ⟨OwnB.nil _ _, Below.refl _ _, Nat.le_refl _, by rw [htl]; cases readF s.size ((s.data.toList.drop 1).take (s.size - 2)) <;> simp, by omega, by simp; omega⟩
    have hnb : n0 ≤ 8796093022000 := by omega
    have HN0 := Lib.hid hn0
    clear hn0
    go_loopw [4, 5] (fun vb vi wr => ∃ (pre : List UInt8) (t : ByteArray) (f : Nat), vi = .string t ∧ RdI w wr w.heap.size vb pre t f n0 (readF s.size ((s.data.toList.drop 1).take (s.size - 2)))) (fun _ vi _ => match vi with | .string t => t.size | _ => 0)
    case atStart => exact ⟨_, t0, _, by rw [← ht0], HI.out⟩
    case round =>
      clear HI ht0 htl hts
      obtain ⟨pre, t, f, rfl, hI⟩ := hrel
      have HI := Lib.hid hI
      clear hI
      cases hie : t.toList.isEmpty with
      | true =>
        have he : t.data.toList = [] := by rw [Lib.toList_data] at hie; exact List.isEmpty_iff.1 hie
        obtain ⟨ab, cb, hv⟩ := OwnB.shape HI.out.own
        have HRE : Hid (readF s.size ((s.data.toList.drop 1).take (s.size - 2)) = some pre) := Lib.hid (by
          rw [HI.out.eq, he]
          cases f <;> simp [readF])
        have HSH := Lib.hid (show_any wr ab (bI pre).length cb (bI pre) (by rw [← hv]; exact HI.out.own.sb (bI_isB _) (by rw [bI_len]; have := HI.out.len; omega)) (by rw [bI_len]; have := HI.out.len; omega))
        rw [bI_str] at HSH
        have HV := Lib.hid hv
        subst hv
        clear he
        go_upto_region 11 with fail
        generalize (bI pre).length = m at HSH HI HV ⊢
        go_wp2_with (go_at_call 20; refine HSH.out.mono ?_)
        rintro e w3 rfl b3
        have HB3 : Hid (Below w.heap.size w w3) := Lib.hid (HI.out.bel.trans (b3.mono HI.out.sz))
        have HO3 := Lib.hid (HI.out.own.below b3)
        have c0 := (HW.out.below (Below.mono HB3.out (Nat.le_refl _))).cell
        clear b3
        by_cases hq : showL pre = s.data.toList
        · have hx : (⟨(showL pre).toArray⟩ : ByteArray) = s := by
            cases s with
            | mk d => simp at hq ⊢; rw [hq]
          have HRD : Hid (readL s.data.toList = some pre) := Lib.hid (by rw [HR.out, HRE.out]; exact if_pos hq)
          rw [hx]
          clear hx hq c0
          go_wp2_with fail
          go_ret2
          exact ⟨HB3.out, .inr ⟨pre, _, HRD.out, rfl, HO3.out⟩⟩
        · have HRD : Hid (readL s.data.toList = none) := Lib.hid (by rw [HR.out, HRE.out]; exact if_neg hq)
          have hq2 : (showL pre == s.toList) = false := by rw [Lib.toList_data]; exact beq_eq_false_iff_ne.2 hq
          clear hq
          go_upto_region 12 with fail
          go_quiet (fail)
          go_wp2_with fail
          go_ret2
          exact ⟨below_drewN HB3.out _, .inl ⟨HRD.out, rfl⟩⟩
      | false =>
        have he : t.data.toList ≠ [] := fun e => by rw [Lib.toList_data, e] at hie; cases hie
        have hpos : 0 < t.size := by rw [← dataL]; exact List.length_pos_iff.2 he
        have HHE := Lib.hid he
        have HLE := Lib.hid (next_le _ he)
        have HNX := Lib.hid (next_any wr t hpos (by have := HI.out.len; omega))
        obtain ⟨f', hf⟩ : ∃ f', f = f' + 1 := ⟨f - 1, by have := HI.out.fu; omega⟩
        have HEQ : Hid (readF s.size ((s.data.toList.drop 1).take (s.size - 2)) = if (nextL t.data.toList).2 = 0 then none else (readF f' (t.data.toList.drop (nextL t.data.toList).2)).map ((pre ++ [(nextL t.data.toList).1]) ++ ·)) := Lib.hid (by
          rw [HI.out.eq, hf]
          conv => lhs; unfold readF
          rw [if_neg he]
          split
          · rfl
          · simp [Option.map_map, Function.comp_def])
        unfold NxPost at HNX
        clear he
        go_upto_region 6 with fail
        generalize nextL t.data.toList = xk at HLE HNX HEQ ⊢
        obtain ⟨x, k⟩ := xk
        dsimp only at HLE HNX HEQ
        go_wp2_with (go_at_call 55; refine HNX.out.mono ?_)
        rintro e w3 ⟨rfl, q, rfl⟩
        have HB3 := Lib.hid (below_drewN HI.out.bel q)
        have HO3 := Lib.hid (HI.out.own.below (below_drewN (Below.refl _ wr) q))
        have HSZ : Hid (w.heap.size ≤ (wr.drewN q).heap.size) := Lib.hid HB3.out.size
        have c0 := (HW.out.below HB3.out).cell
        clear HNX
        by_cases hk : k = 0
        · have hd : ((k : Int) == 0) = true := by simp [hk]
          have HRE : Hid (readF s.size ((s.data.toList.drop 1).take (s.size - 2)) = none) := Lib.hid (by rw [HEQ.out, if_pos hk])
          have HRD : Hid (readL s.data.toList = none) := Lib.hid (by rw [HR.out, HRE.out])
          clear hk
          generalize wr.drewN q = w4 at HB3 c0 ⊢
          go_upto_region 8 with fail
          go_quiet (fail)
          go_wp2_with fail
          go_ret2
          exact ⟨below_drewN HB3.out _, .inl ⟨HRD.out, rfl⟩⟩
        · have hd : ((k : Int) == 0) = false := by simp; omega
          have HRE := Lib.hid (HEQ.out.trans (if_neg hk))
          have HSL : Hid ((t.extract k t.size).data.toList = t.data.toList.drop k) := Lib.hid (by rw [extract_list, List.take_of_length_le (by rw [List.length_drop, dataL]; omega)])
          have HSS : Hid ((t.extract k t.size).size = t.size - k) := Lib.hid (by rw [← dataL, HSL.out, List.length_drop, dataL])
          have hks : k ≤ t.size := by have := HLE.out; rw [dataL] at this; exact this
          have hkb : t.size ≤ 9223372036854775807 := by have := HI.out.len; omega
          generalize wr.drewN q = w4 at HB3 HO3 HSZ c0 ⊢
          clear c0
          have hpl : (bI pre).length + 1 ≤ 140737488355328 := by rw [bI_len]; have := HI.out.len; omega
          go_wp2_with (at_builtin; refine append_b1 rfl (.tmp 27) (.tmp 29) rfl w.heap.size _ (bI pre) (x.toNat : Int) rfl HO3.out rfl hpl HSZ.out ?_)
          intro v5 w5 ho hA
          have HO5 : Hid (OwnB w5 w.heap.size v5 (bI (pre ++ [x]))) := Lib.hid (by rw [show bI (pre ++ [x]) = bI pre ++ [(x.toNat : Int)] by simp [bI]]; exact ho)
          have HB5 := Lib.hid (hA.bel _ _ HB3.out (Nat.le_refl _))
          have HI5 : Hid (RdI w w5 w.heap.size v5 (pre ++ [x]) (t.extract k t.size) f' n0 (readF s.size ((s.data.toList.drop 1).take (s.size - 2)))) := Lib.hid
            ⟨HO5.out, HB5.out, HB5.out.size, by rw [HRE.out, HSL.out], by rw [HSS.out]; have := HI.out.fu; omega, by rw [HSS.out, List.length_append, List.length_singleton]; have := HI.out.len; omega⟩
          clear ho hA
          go_wp2_with fail
          go_roundw
          case rel => exact ⟨_, _, _, rfl, HI5.out⟩
          case measure =>
            show (t.extract k t.size).size < t.size
            rw [HSS.out]
            omega
end Go.Proofs.YtboikhalfffioaaDoor
