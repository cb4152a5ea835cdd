/-
  words.Words.Text where there is a text; End at a semicolon.
-/
import Derived.Test.YtadjonggmbndmaaText
namespace Go.Proofs.Ytadjonggmbndmaa
open Go.RowKit

theorem drop_two (l rest : List Int) (b : Nat) (x y : Int) (h : l.drop b = x :: y :: rest) : b + 2 ≤ l.length ∧ rest = l.drop (b + 2) ∧ (l.drop b).take 2 = [x, y] ∧ rest.length = l.length - b - 2 := by
  have hl : (l.drop b).length = rest.length + 2 := by rw [h]; rfl
  rw [List.length_drop] at hl
  refine ⟨by omega, ?_, by rw [h]; rfl, by omega⟩
  rw [← List.drop_drop, h]
  rfl

def TextPost (w : World) (g : Nat) (l : List Int) (t : List Int) (to : Nat) (r : Ending) (w' : World) : Prop :=
  ∃ v, r = .returned (.tuple #[v, .int .i64 0]) ∧ OwnB w' w.heap.size v t ∧ IsB t ∧ t.length ≤ l.length ∧ Wd w' g l to ∧ w.grownBy w' (some g)

def TextInv (w : World) (l : List Int) (t : List Int) (lo hi : Nat) (i v : Value) (wr : World) : Prop :=
  ∃ (k : Nat) (acc t' : List Int) (m' : Nat), k ≤ l.length ∧ lo ≤ k ∧ i = .int .i64 k ∧ OwnB wr w.heap.size v acc ∧ IsB acc ∧ acc.length ≤ k ∧ Below w.heap.size w wr ∧ txL (l.drop k) = some (t', m') ∧ acc ++ t' = t ∧ k + m' = hi

theorem text_more {w2 w1 : World} {l acc t' : List Int} {lo hi k m' : Nat} {v' : Value} (x : Int) (n : Nat) (hn : n ≤ 2) (h1n : 1 ≤ n) (hx0 : 0 ≤ x) (hx1 : x ≤ 255) (hk : k + n ≤ l.length) (hlo : lo ≤ k) (hal : acc.length ≤ k) (hB : IsB acc)
    (hx : txL (l.drop (k + n)) = some (t', m')) (hkm : k + (m' + n) = hi) (ho : OwnB w1 w2.heap.size v' (acc ++ [x])) (hb : Below w2.heap.size w2 w1) : TextInv w2 l (acc ++ x :: t') lo hi (.int .i64 ((k : Int) + n)) v' w1 :=
  ⟨k + n, acc ++ [x], t', m', hk, by omega, by go_num, ho, isB_append _ _ hB (isB_one x hx0 hx1), by simp; omega, hb, hx, by simp, by omega⟩

set_option maxHeartbeats 2000000 in
set_option maxRecDepth 100000 in
theorem text_yes (w : World) (g : Nat) (l : List Int) (a : Nat) (h : Wd w g l a) (rest t : List Int) (m : Nat) (hd : l.drop (a + (runL blB l a).length) = 92 :: 10 :: rest) (hr : rest ≠ []) (ht : txL rest = some (t, m)) :
    Calls Try.prog 32 #[.pointer (some ⟨g, 0, none⟩)] w (TextPost w g l t (min (a + (runL blB l a).length + 2 + m + 1) l.length)) := by
  obtain ⟨i0, hi, hz0, hz1, hz2⟩ := info_parts infoB
  obtain ⟨ha, hl, -, -, -⟩ := h.cells
  have hbe := behind_any blS bl_ascii w g l a h a ha
  rw [hasS_bl_fun] at hbe
  generalize a + (runL blB l a).length = E at hbe hd ⊢
  obtain ⟨hE2, hrest, htk, hrl⟩ := drop_two l rest E 92 10 hd
  have hE3 : E + 2 < l.length := by
    have : rest.length ≠ 0 := fun e => hr (List.eq_nil_of_length_eq_zero e)
    omega
  rw [hrest] at ht
  have HBE := Lib.hid hbe
  have HD := Lib.hid hd
  have HTX := Lib.hid ht
  have HTK := Lib.hid htk
  have hgs := h.lt
  clear hbe hd ht htk hrest hr hrl hE2
  go_enter Try.func32, Try.ntmps32
  go_wp2_with fail
  refine (isWords_yes w g l a h).mono ?_
  rintro e w' ⟨rfl, rfl⟩
  obtain ⟨-, -, -, h2, -⟩ := h.cells
  go_wp2_with fail
  refine HBE.out.mono ?_
  rintro e w1 ⟨rfl, hb1⟩
  have h1 := h.below hb1
  clear HBE h h2
  obtain ⟨-, -, -, h2, hf, ad, cap, htx, hcap, hs⟩ := h1.cells
  obtain ⟨ad', -, hsd, hsl, hse⟩ := hs.cut E l.length (by omega) (Nat.le_refl _) hcap
  rw [hse] at hsl
  rw [List.take_of_length_le (by rw [List.length_drop]; omega)] at hsd
  obtain ⟨b, o, rfl, -⟩ := hsd.read 0 (by omega)
  have hcv := fun (w : World) (C : Array Value) (n c g : Nat) (hg : g = w.heap.size) => Joins.run_convert_bytes_const_at (P := Try.prog) w 35 5 C n c g hg Try.underlying35 Try.underlying5
  have hG := grown_below hb1 (some g)
  have hsz := hb1.size
  clear hs hse hb1
  go_wp2_with fail
  have hb2 := (Below.refl w1.heap.size w1).alloc (Nat.le_refl _) (.cells #[.int .u8 92, .int .u8 10] 5 (2, 3))
  refine (hasPrefix_yes _ b o (l.length - E) (cap - E) w1.heap.size 0 2 2 (l.drop E) [92, 10] (hsd.below hb2) (SB.lit w1 5 [92, 10] _ (2, 3) 2 rfl rfl (by decide)) (by omega) (by omega) (by omega) HTK.out).mono ?_
  rintro e w2 ⟨rfl, rfl⟩
  have h1 := h1.below hb2
  have hG := grown_trans hG (grown_below hb2 (some g))
  obtain ⟨-, -, -, h2, hf, ad2, cap2, htx2, hcap2, hs⟩ := h1.cells
  have hne : (((E : Int) + 2) == (l.length : Int)) = false := by rw [beq_eq_false_iff_ne]; omega
  have hsz2 : w.heap.size ≤ (w1.alloc (.cells #[.int .u8 92, .int .u8 10] 5 (2, 3))).heap.size := by rw [World.size_alloc]; omega
  clear htx hb2 hsl hsd hcv
  generalize w1.alloc (.cells #[.int .u8 92, .int .u8 10] 5 (2, 3)) = w2 at h1 hG h2 hf htx2 hs hsz2 ⊢
  go_wp2_with fail
  clear hne
  go_loopw [4, 5] (fun i v wr => TextInv w2 l t (E + 2) (E + 2 + m) i v wr) (fun i _ _ => l.length - (intOf i).toNat)
  case atStart => exact ⟨E + 2, [], t, m, by omega, Nat.le_refl _, rfl, OwnB.nil _ _, isB_nil, by simp, Below.refl _ _, HTX.out, rfl, rfl⟩
  case round =>
    obtain ⟨k, acc, t', m', hk, hlo, rfl, ho, hB, hal, rb, hx, rfl, hkm⟩ := hrel
    have hW := h1.below rb
    have hG3 := grown_trans hG (grown_below rb (some g))
    obtain ⟨-, -, -, hc2, hf2, ad, cap, hc1, hcap, hs⟩ := hW.cells
    have HB := Lib.hid hB
    have HX := Lib.hid hx
    have HKM := Lib.hid hkm
    have hrs := rb.size
    clear hB hx hkm h1 h2 hf htx2
    by_cases hlt : k < l.length
    · have hdr := drop_at l k hlt
      obtain ⟨hx0, hx1⟩ := hs.1 k
      obtain ⟨b, o, rfl, hc⟩ := hs.read k hlt
      have hck := hc k hlt
      have HC := Lib.hid hc
      have HS := Lib.hid hs
      clear hc hs
      by_cases hx10 : l[k]?.getD 0 = 10
      · have hfin : t' = [] ∧ m' = 0 := by
          have := HX.out
          rw [hdr, hx10, txL_nl] at this
          simp only [Option.some.injEq, Prod.mk.injEq] at this
          exact ⟨this.1.symm, this.2.symm⟩
        obtain ⟨rfl, rfl⟩ := hfin
        have hS := hW.set (k + 1) hlt
        have hmin : min ((k : Int) + 1) (l.length : Int) = (k : Int) + 1 := by omega
        have hmin2 : min (E + 2 + m + 1) l.length = k + 1 := by have := HKM.out; omega
        have ho2 := (ho.mono hsz2).setBelow (a := ⟨g, 2, none⟩) hgs (.int .i64 ((k : Int) + 1))
        have H : TextPost w g l (acc ++ []) (min (E + 2 + m + 1) l.length) (.returned (.tuple #[u5, .int .i64 0])) (wr.setCell ⟨g, 2, none⟩ (.int .i64 ((k : Int) + 1))) :=
          ⟨u5, rfl, by rw [List.append_nil]; exact ho2, by rw [List.append_nil]; exact HB.out, by rw [List.append_nil]; omega, by rw [hmin2]; exact hS.1, grown_trans hG3 hS.2⟩
        rw [hx10] at hck hx0 hx1
        have HF := Lib.hid H
        clear hdr hx10 hS hmin2 ho2 H hW hG3 hG
        go_wp2_with fail
        go_ret2
        exact HF.out
      · have hq1 : (l[k]?.getD 0 != 10) = true := by rw [bne_iff_ne]; exact hx10
        by_cases hx92 : l[k]?.getD 0 = 92
        · by_cases hk1 : k + 1 < l.length
          · have hdr2 := drop_at l (k + 1) hk1
            have hcn : wr.cell? ⟨b, o + k + 1, none⟩ = some (.int .u8 (l[k + 1]?.getD 0)) := HC.out (k + 1) hk1
            have hcn2 := HC.out (k + 1) hk1
            obtain ⟨hy0, hy1⟩ := HS.out.1 (k + 1)
            have hx := HX.out
            rw [hdr, hx92, hdr2, txL_sl, Option.map_eq_some_iff] at hx
            obtain ⟨⟨t1, m1⟩, hx, he⟩ := hx
            simp only [Prod.mk.injEq] at he
            obtain ⟨rfl, rfl⟩ := he
            have HX2 := Lib.hid hx
            have hq6 : (((k : Int) + 1) == (l.length : Int)) = false := by rw [beq_eq_false_iff_ne]; omega
            rw [hx92] at hck hx0 hx1 hq1
            clear hx hdr hx10 hx92 HX HC HS hdr2
            generalize l[k + 1]?.getD 0 = y at hcn hcn2 hy0 hy1 ⊢
            have hbs := rb.size
            go_wp2_with (at_builtin; refine wpList_append_own _ rfl _ _ 35 rfl w2.heap.size 5 i0 (.int .u8 0) 1 1 Try.underlying35 hi hz0 hz1 hz2 rfl (by decide) _ _ _ rfl (World.ownsRow.alloc ho _) ⟨wr.heap.size, 0, none⟩ 1 1 [.int .u8 y] rfl rfl (one_cell _ _) (one_one _) ?d3 ?d4 ?d5 ?_)
            case d3 => unfold maxLen; omega
            case d4 => omega
            case d5 => simp; omega
            intro v' w3 hown' hgrow _
            have hR := text_more (lo := E + 2) y 2 (by omega) (by omega) hy0 hy1 hk1 hlo hal HB.out HX2.out HKM.out (own_step hown') ((rb.alloc hbs _).grown hgrow (by rw [World.size_alloc]; omega) (ho.from (Nat.le_refl _)))
            have HR := Lib.hid hR
            clear hR hown' hgrow ho hW hG hG3
            go_wp2_with fail
            go_roundw
            case rel => exact HR.out
            case measure => simp [intOf]; omega
          · have hx := HX.out
            rw [hdr, hx92, List.drop_of_length_le (l := l) (i := k + 1) (by omega), txL_sl0] at hx
            cases hx
        · have hq2 : (l[k]?.getD 0 == 92) = false := beq_eq_false_iff_ne.2 hx92
          have hx := HX.out
          rw [hdr, txL_else _ _ hx10 hx92, Option.map_eq_some_iff] at hx
          obtain ⟨⟨t1, m1⟩, hx, he⟩ := hx
          simp only [Prod.mk.injEq] at he
          obtain ⟨rfl, rfl⟩ := he
          have HX2 := Lib.hid hx
          clear hx hdr hx10 hx92 HX HC HS
          generalize l[k]?.getD 0 = x at hck hx0 hx1 hq1 hq2 ⊢
          have hbs := rb.size
          go_wp2_with (at_builtin; refine wpList_append_own _ rfl _ _ 35 rfl w2.heap.size 5 i0 (.int .u8 0) 1 1 Try.underlying35 hi hz0 hz1 hz2 rfl (by decide) _ _ _ rfl (World.ownsRow.alloc ho _) ⟨wr.heap.size, 0, none⟩ 1 1 [.int .u8 x] rfl rfl (one_cell _ _) (one_one _) ?c3 ?c4 ?c5 ?_)
          case c3 => unfold maxLen; omega
          case c4 => omega
          case c5 => simp; omega
          intro v' w3 hown' hgrow _
          have hR := text_more (lo := E + 2) x 1 (by omega) (by omega) hx0 hx1 hlt hlo hal HB.out HX2.out HKM.out (own_step hown') ((rb.alloc hbs _).grown hgrow (by rw [World.size_alloc]; omega) (ho.from (Nat.le_refl _)))
          have HR := Lib.hid hR
          clear hR hown' hgrow ho hW hG hG3
          go_wp2_with fail
          go_roundw
          case rel => exact HR.out
          case measure => simp [intOf]; omega
    · have hfin : t' = [] ∧ m' = 0 := by
        have := HX.out
        rw [List.drop_of_length_le (by omega)] at this
        simp only [txL, Option.some.injEq, Prod.mk.injEq] at this
        exact ⟨this.1.symm, this.2.symm⟩
      obtain ⟨rfl, rfl⟩ := hfin
      have hS := hW.set l.length (Nat.le_refl _)
      have hmin : min ((k : Int) + 1) (l.length : Int) = (l.length : Int) := by omega
      have hmin2 : min (E + 2 + m + 1) l.length = l.length := by have := HKM.out; omega
      have ho2 := (ho.mono hsz2).setBelow (a := ⟨g, 2, none⟩) hgs (.int .i64 (l.length : Int))
      have H : TextPost w g l (acc ++ []) (min (E + 2 + m + 1) l.length) (.returned (.tuple #[u5, .int .i64 0])) (wr.setCell ⟨g, 2, none⟩ (.int .i64 (l.length : Int))) :=
        ⟨u5, rfl, by rw [List.append_nil]; exact ho2, by rw [List.append_nil]; exact HB.out, by rw [List.append_nil]; omega, by rw [hmin2]; exact hS.1, grown_trans hG3 hS.2⟩
      have HF := Lib.hid H
      clear hS hmin2 ho2 H hW hG3 hG
      go_wp2_with fail
      go_ret2
      exact HF.out
end Go.Proofs.Ytadjonggmbndmaa
