/-
  galleyref01.Bytes: the bytes of a class, rising.
-/
import Derived.Test.YtcdoliinemafaaaAll
import Derived.Test.YtcdoliinemafaaaBytes
namespace Go.Proofs.Ytcdoliinemafaaa
open Go.RowKit

/-- Bytes as numbers. -/
def byL (l : List Byt) : List Int := l.map fun x => (x.1 : Int)
theorem byL_snoc (l : List Byt) (x : Byt) : byL (l ++ [x]) = byL l ++ [(x.1 : Int)] := by simp [byL]
theorem byL_len (l : List Byt) : (byL l).length = l.length := by simp [byL]
theorem isB_byL (l : List Byt) : IsB (byL l) := fun i => by
  unfold byL
  rw [List.getElem?_map]
  cases h : l[i]? with
  | none => simp
  | some x => have := x.2; simp; omega

theorem ownB_shape {w : World} {base : Nat} {v : Value} {l : List Int} (h : OwnB w base v l) : ∃ b c, v = .slice b l.length c := by
  rcases h.2 with ⟨rfl, hn⟩ | ⟨g, cap, cur, rfl, _⟩
  · exact ⟨none, 0, by rw [hn]⟩
  · exact ⟨_, _, rfl⟩
theorem ownB_below {w w' : World} {base : Nat} {v : Value} {l : List Int} (h : OwnB w base v l) (hb : Below w.heap.size w w') : OwnB w' base v l :=
  ⟨h.1, h.2.imp_right fun ⟨g, cap, cur, e, hg, hk, r⟩ => ⟨g, cap, cur, e, hg, (hb.block g (Array.getElem?_eq_some_iff.1 hk).1).trans hk, r⟩⟩
def BytesPost (w : World) (c : List Nat) (e : Ending) (w' : World) : Prop := ∃ v, e = .returned v ∧ OwnB w' w.heap.size v (byL (elemsL c)) ∧ Below w.heap.size w w'

set_option maxRecDepth 100000 in
set_option maxHeartbeats 1000000 in
theorem refBytes_any (w : World) (c : List Nat) (hc : IsC c) : Calls Try.prog 21 #[.agg (row64 c)] w (BytesPost w c) := by
  have ra : Arr64 (w.alloc (.cells (row64 c) 24)) w.heap.size 24 c := Arr64.new _ _ _
  have hb0 := (Below.refl w.heap.size w).alloc (Nat.le_refl _) (.cells (row64 c) 24)
  have HC := Lib.hid hc
  clear hc
  go_enter Try.func21, Try.ntmps21
  go_wp2
  go_loopw [3, 4] (fun v3 i wr => ∃ k : Nat, k ≤ 256 ∧ i = .int .i64 k ∧ OwnB wr (w.heap.size + 1) v3 (byL (elemsU c k)) ∧ Arr64 wr w.heap.size 24 c ∧ Below w.heap.size w wr) (fun _ i _ => 256 - (intOf i).toNat)
  case atStart => exact ⟨0, by omega, rfl, OwnB.nil _ _, ra, hb0⟩
  case round =>
    obtain ⟨k, hk, rfl, ho, ra, ab⟩ := hrel
    by_cases hlt : k < 256
    · have hw : IntKind.u8.wrap (k : Int) = (k : Int) := by rw [IntKind.wrap_u8]; omega
      go_wp2_with (refine wpList_load_row rfl 24 _ rfl w.heap.size rfl 24 _ (0, 0) _ ra Try.underlying24 rfl (by rw [row64_size, HC.out.1]; exact infoC) ?_)
      refine (refHas_any _ c HC.out k hlt).mono ?_
      rintro e w1 ⟨rfl, hb1⟩
      have ra := ra.below hb1 ra.lt
      have ho := ownB_below ho hb1
      have ab := ab.trans (hb1.mono ab.size)
      have hsz : w.heap.size + 1 ≤ w1.heap.size := ra.lt
      clear hb1
      obtain ⟨a3, c3, hv3⟩ := ownB_shape ho
      subst hv3
      cases hva : hasL c k with
      | true =>
        have HN := Lib.hid (elemsU_yes c k hlt hva)
        have hl := elemsU_len c k
        have HL : Hid ((byL (elemsU c k)).length ≤ 256) := Lib.hid (by rw [byL_len]; omega)
        clear hva hl
        go_wp2_with (at_builtin; refine append_b1 rfl (.tmp 13) (.tmp 16) rfl (w.heap.size + 1) _ (byL (elemsU c k)) (k : Int) rfl ho rfl (by have := HL.out; omega) hsz ?_)
        intro v' w9 ho9 hA9
        have rb9 := hA9.bel _ _ ab (by omega)
        have ra9 : Arr64 w9 w.heap.size 24 c := (hA9.block _ ra.lt (fun e => by have := (World.ownsRow.lt ho _ e).1; omega)).trans ra
        have e9 : byL (elemsU c k) ++ [(k : Int)] = byL (elemsU c (k + 1)) := by rw [HN.out, byL_snoc]
        rw [e9] at ho9
        have HO := Lib.hid ho9
        clear ho9 hA9 ho ra ab e9
        go_wp2_with fail
        go_roundw
        case rel => exact ⟨k + 1, by omega, by go_num, HO.out, ra9, rb9⟩
        case measure => simp [intOf]; omega
      | false =>
        have HN := Lib.hid (elemsU_no c k hva)
        clear hva
        go_wp2_with fail
        go_roundw
        case rel => exact ⟨k + 1, by omega, by go_num, by rw [HN.out]; exact ho, ra, ab⟩
        case measure => simp [intOf]; omega
    · obtain rfl : k = 256 := by omega
      go_wp2_with fail
      go_ret
      exact ⟨_, rfl, ho.mono (Nat.le_succ _), ab⟩
end Go.Proofs.Ytcdoliinemafaaa
