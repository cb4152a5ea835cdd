/-
  quote.next: its walk.
-/
import Derived.Test.YtboikhalfffioaaDoorSh
namespace Go.Proofs.YtboikhalfffioaaDoor
open Go.RowKit

def hexS : List UInt8 := [48, 49, 50, 51, 52, 53, 54, 55, 56, 57, 97, 98, 99, 100, 101, 102]
/-- The byte that is written at the head, and how much it takes; 0: cut short. -/
def nextL (l : List UInt8) : UInt8 × Nat :=
  if l.getD 0 0 ≠ 92 then (l.getD 0 0, 1)
  else if l.length < 2 then (0, 0)
  else if l.getD 1 0 = 110 then (10, 2) else if l.getD 1 0 = 116 then (9, 2) else if l.getD 1 0 = 114 then (13, 2)
  else if l.getD 1 0 = 120 then
    (if l.length < 4 then (0, 0)
     else if Lib.indexByte hexS (l.getD 2 0) < 0 ∨ Lib.indexByte hexS (l.getD 3 0) < 0 then (0, 0)
     else (UInt8.ofNat ((Lib.indexByte hexS (l.getD 2 0)).toNat * 16 + (Lib.indexByte hexS (l.getD 3 0)).toNat), 4))
  else (l.getD 1 0, 2)
theorem at_byte (s : ByteArray) (i : Nat) (h : i < s.size) : s.data.toList.getD i 0 = s[i] := by
  rw [List.getD, List.getElem?_eq_getElem (by rw [dataL]; exact h)]
  rfl
theorem hex_range : ∀ c : UInt8, -1 ≤ Lib.indexByte hexS c ∧ Lib.indexByte hexS c < 16 := by
  intro c
  have h : ∀ n : Nat, n < 256 → -1 ≤ Lib.indexByte hexS (UInt8.ofNat n) ∧ Lib.indexByte hexS (UInt8.ofNat n) < 16 := by decide +kernel
  have := h c.toNat c.toNat_lt
  rwa [UInt8.ofNat_toNat] at this
theorem or_hex : ∀ x : Nat, x < 16 → ∀ y : Nat, y < 16 → bits BinOp.or IntKind.i64 (wrap64 ((x : Int) * 16)) (y : Int) % 256 = ((UInt8.ofNat ((x : Int).toNat * 16 + (y : Int).toNat)).toNat : Int) := by decide +kernel
/-- What next hands back. -/
def NxPost (s : ByteArray) (w : World) (e : Ending) (w' : World) : Prop := e = .returned (.tuple #[.int .u8 ((nextL s.data.toList).1.toNat : Int), .int .i64 ((nextL s.data.toList).2 : Int)]) ∧ ∃ q, w' = w.drewN q
theorem nx_post {s : ByteArray} {w : World} (x : UInt8) (k : Nat) (h : nextL s.data.toList = (x, k)) (e : Ending) (he : e = .returned (.tuple #[.int .u8 (x.toNat : Int), .int .i64 (k : Int)])) (q : Nat) : NxPost s w e (w.drewN q) := by
  unfold NxPost
  rw [h]
  exact ⟨he, q, rfl⟩

set_option maxHeartbeats 1000000 in
set_option maxRecDepth 100000 in
theorem next_any (w : World) (s : ByteArray) (hs : 0 < s.size) (hb : s.size ≤ 9223372036854775807) : Calls Tryd.prog 55 #[.string s] w (NxPost s w) := by
  have hlen : s.data.toList.length = s.size := dataL s
  have hL0 := at_byte s 0 hs
  have HX := Lib.hid hex_range
  have HL := Lib.hid hlen
  clear hlen
  go_enter Tryd.func55, Tryd.ntmps55
  by_cases h0 : s[0] = 92
  · have e0 : ((s[0].toNat : Int) != 92) = false := by rw [h0]; rfl
    have HL0 := Lib.hid (hL0.trans h0)
    clear hL0
    by_cases h2 : s.size < 2
    · have hd : decide ((s.size : Int) < 2) = true := decide_eq_true (by omega)
      have hN : nextL s.data.toList = (0, 0) := by rw [nextL, if_neg (by simpa using HL0.out), if_pos (by rw [HL.out]; exact h2)]
      have HN := Lib.hid hN
      clear hN
      go_wp2_with fail
      go_ret2
      exact nx_post 0 0 HN.out _ rfl 0
    · have hd : decide ((s.size : Int) < 2) = false := decide_eq_false (by omega)
      have h1 : 1 < s.size := by omega
      have HL1 := Lib.hid (at_byte s 1 h1)
      have HB : Hid (nextL s.data.toList = if s[1] = 110 then (10, 2) else if s[1] = 116 then (9, 2) else if s[1] = 114 then (13, 2) else if s[1] = 120 then (if s.size < 4 then (0, 0) else if Lib.indexByte hexS (s.data.toList.getD 2 0) < 0 ∨ Lib.indexByte hexS (s.data.toList.getD 3 0) < 0 then (0, 0) else (UInt8.ofNat ((Lib.indexByte hexS (s.data.toList.getD 2 0)).toNat * 16 + (Lib.indexByte hexS (s.data.toList.getD 3 0)).toNat), 4)) else (s[1], 2)) := Lib.hid (by
        rw [nextL, if_neg (by simpa using HL0.out), if_neg (by rw [HL.out]; exact h2), HL1.out, HL.out])
      clear HL0 HL1
      by_cases c1 : s[1] = 110
      · have e1 : ((s[1].toNat : Int) == 110) = true := by rw [c1]; rfl
        have HN := Lib.hid (HB.out.trans (if_pos c1))
        go_wp2_with fail
        go_ret2
        exact nx_post 10 2 HN.out _ rfl 0
      · have e1 : ((s[1].toNat : Int) == 110) = false := beq_eq_false_iff_ne.2 (fun e => c1 (UInt8.toNat_inj.1 (show s[1].toNat = 110 by omega)))
        have HB := Lib.hid (HB.out.trans (if_neg c1))
        by_cases c2 : s[1] = 116
        · have e2 : ((s[1].toNat : Int) == 116) = true := by rw [c2]; rfl
          have HN := Lib.hid (HB.out.trans (if_pos c2))
          clear c1
          go_wp2_with fail
          go_ret2
          exact nx_post 9 2 HN.out _ rfl 0
        · have e2 : ((s[1].toNat : Int) == 116) = false := beq_eq_false_iff_ne.2 (fun e => c2 (UInt8.toNat_inj.1 (show s[1].toNat = 116 by omega)))
          have HB := Lib.hid (HB.out.trans (if_neg c2))
          by_cases c3 : s[1] = 114
          · have e3 : ((s[1].toNat : Int) == 114) = true := by rw [c3]; rfl
            have HN := Lib.hid (HB.out.trans (if_pos c3))
            clear c1 c2
            go_wp2_with fail
            go_ret2
            exact nx_post 13 2 HN.out _ rfl 0
          · have e3 : ((s[1].toNat : Int) == 114) = false := beq_eq_false_iff_ne.2 (fun e => c3 (UInt8.toNat_inj.1 (show s[1].toNat = 114 by omega)))
            have HB := Lib.hid (HB.out.trans (if_neg c3))
            by_cases c4 : s[1] = 120
            · have e4 : ((s[1].toNat : Int) == 120) = true := by rw [c4]; rfl
              have HB := Lib.hid (HB.out.trans (if_pos c4))
              clear c1 c2 c3 c4
              by_cases h4 : s.size < 4
              · have hd4 : decide ((s.size : Int) < 4) = true := decide_eq_true (by omega)
                have HN := Lib.hid (HB.out.trans (if_pos h4))
                go_wp2_with fail
                go_ret2
                exact nx_post 0 0 HN.out _ rfl 0
              · have hd4 : decide ((s.size : Int) < 4) = false := decide_eq_false (by omega)
                have h3 : 3 < s.size := by omega
                have h2' : 2 < s.size := by omega
                have HB := Lib.hid (HB.out.trans (if_neg h4))
                rw [at_byte s 2 h2', at_byte s 3 h3] at HB
                have hIB : ∀ (c : UInt8) (w1 : World), Calls Tryd.prog 69 #[.string ⟨#[48, 49, 50, 51, 52, 53, 54, 55, 56, 57, 97, 98, 99, 100, 101, 102]⟩, .int .u8 (c.toNat : Int)] w1 fun e w' => e = .returned (.int .i64 (Lib.indexByte hexS c)) ∧ w' = w1 := fun c w1 => by
                  have := Tryd.strings_IndexByte ⟨#[48, 49, 50, 51, 52, 53, 54, 55, 56, 57, 97, 98, 99, 100, 101, 102]⟩ (c.toNat : Int) w1
                  rwa [show ((c.toNat : Int).toNat.toUInt8) = c by simp] at this
                have Q2 := Lib.hid (fun q => Calls.quiet_of_same (hIB s[2] (w.drewN q)))
                have Q3 := Lib.hid (fun q => Calls.quiet_of_same (hIB s[3] (w.drewN q)))
                clear hIB
                have r2 := HX.out s[2]
                have r3 := HX.out s[3]
                have q2 : (2 : Int) < (s.size : Int) := by omega
                have q3 : (3 : Int) < (s.size : Int) := by omega
                go_upto_region 15 with fail
                go_quiet (first | (go_at_call 69; with_reducible exact Q2.out _) | (go_at_call 69; with_reducible exact Q3.out _))
                generalize Lib.indexByte hexS s[2] = a at HB r2 ⊢
                generalize Lib.indexByte hexS s[3] = b at HB r3 ⊢
                clear Q2 Q3
                by_cases ha : a < 0
                · have da : decide (a < 0) = true := decide_eq_true ha
                  have HN := Lib.hid (HB.out.trans (if_pos (Or.inl ha)))
                  go_wp2_with fail
                  go_ret2
                  exact nx_post 0 0 HN.out _ rfl _
                · have da : decide (a < 0) = false := decide_eq_false ha
                  by_cases hb0 : b < 0
                  · have db : decide (b < 0) = true := decide_eq_true hb0
                    have HN := Lib.hid (HB.out.trans (if_pos (Or.inr hb0)))
                    go_wp2_with fail
                    go_ret2
                    exact nx_post 0 0 HN.out _ rfl _
                  · have db : decide (b < 0) = false := decide_eq_false hb0
                    have HN := Lib.hid (HB.out.trans (if_neg (by omega)))
                    obtain ⟨x, rfl⟩ : ∃ x : Nat, a = (x : Int) := ⟨a.toNat, by omega⟩
                    obtain ⟨y, rfl⟩ : ∃ y : Nat, b = (y : Int) := ⟨b.toNat, by omega⟩
                    have HXY : Hid (x < 16 ∧ y < 16) := Lib.hid (by omega)
                    clear HB ha hb0 r2 r3
                    go_wp2_with fail
                    go_ret2
                    refine nx_post _ 4 HN.out _ ?_ _
                    show Ending.returned (Value.tuple #[.int .u8 (bits BinOp.or IntKind.i64 (wrap64 ((x : Int) * 16)) (y : Int) % 256), .int .i64 4]) = _
                    rw [or_hex x HXY.out.1 y HXY.out.2]
                    rfl
            · have e4 : ((s[1].toNat : Int) == 120) = false := beq_eq_false_iff_ne.2 (fun e => c4 (UInt8.toNat_inj.1 (show s[1].toNat = 120 by omega)))
              have HN := Lib.hid (HB.out.trans (if_neg c4))
              clear c1 c2 c3 c4
              go_wp2_with fail
              go_ret2
              exact nx_post _ 2 HN.out _ rfl 0
  · have e0 : ((s[0].toNat : Int) != 92) = true := by rw [bne, beq_eq_false_iff_ne.2 (fun e => h0 (UInt8.toNat_inj.1 (show s[0].toNat = 92 by omega)))]; rfl
    have HN : Hid (nextL s.data.toList = (s[0], 1)) := Lib.hid (by rw [nextL, hL0, if_pos h0])
    clear hL0
    go_wp2_with fail
    go_ret2
    exact nx_post _ 1 HN.out _ rfl 0
end Go.Proofs.YtboikhalfffioaaDoor
