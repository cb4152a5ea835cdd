/-
  galleyref16.Parse: marks as pieces.
-/
import Derived.Test.YtdbkoephkdfbfaaDoorRefWith
import Derived.Test.YtdbkoephkdfbfaaDoorParseF
namespace Go.Proofs.YtdbkoephkdfbfaaDoor
open Go.RowKit

theorem plainP_back {L : List PcV} {out : List Pc} {g : Int} {t : List Int} (h : plainP L = out ++ [(g, t)]) : ∃ L0 vt, L = L0 ++ [(g, vt, t)] ∧ plainP L0 = out := by
  unfold plainP at h
  obtain ⟨L1, L2, rfl, h1, h2⟩ := List.map_eq_append_iff.1 h
  rw [List.map_eq_singleton_iff] at h2
  obtain ⟨⟨g', vt, t'⟩, rfl, h2⟩ := h2
  simp only [Prod.mk.injEq] at h2
  obtain ⟨rfl, rfl⟩ := h2
  exact ⟨L1, vt, rfl, h1⟩
/-- The last piece is no text. -/
def lastOk (out : List Pc) : Prop := out = [] ∨ ∃ o g t, out = o ++ [(g, t)] ∧ g ≠ -1
theorem lastOk_grp (o : List Pc) (g : Int) (t : List Int) (h : g ≠ -1) : lastOk (o ++ [(g, t)]) := .inr ⟨o, g, t, rfl, h⟩
def WithAny (w : World) (base : Nat) (L : List PcV) (p : List Pc) (e : Ending) (w' : World) : Prop := ∃ v' L', e = .returned v' ∧ OwnPs w' base v' L' ∧ plainP L' = p ∧ L'.length ≤ L.length + 1 ∧ KeptW w w' base
theorem with_any (w : World) (base : Nat) (v : Value) (L : List PcV) (out : List Pc) (text : List Int) (h : OwnPs w base v L) (hP : plainP L = flushL out text) (hlast : lastOk out) (hL : L.length ≤ 4294967296) (htx : text.length ≤ 4294967296) (b : Int) (hbase : base ≤ w.heap.size) :
    Calls Tryd.prog 93 #[v, .int .u8 b] w (WithAny w base L (flushL out (text ++ [b]))) := by
  by_cases ht : text = []
  · subst ht
    have e : flushL out ([] ++ [b]) = out ++ [(-1, [b])] := by unfold flushL; rw [if_neg (by simp)]; rfl
    have e0 : plainP L = out := by rw [hP]; unfold flushL; rw [if_pos rfl]
    rw [e]
    refine (with_new w base v L h ?_ hL b hbase).mono ?_
    · rcases hlast with h0 | ⟨o, g, t, h0, hg⟩
      · left
        rw [h0] at e0
        exact List.map_eq_nil_iff.1 e0
      · right
        rw [h0] at e0
        obtain ⟨L0, vt, rfl, -⟩ := plainP_back e0
        exact ⟨L0, g, vt, t, rfl, hg⟩
    · rintro e w' ⟨v', L', rfl, ho, hp, hl, hk⟩
      exact ⟨v', L', rfl, ho, by rw [hp, e0], hl, hk⟩
  · have e : flushL out (text ++ [b]) = out ++ [(-1, text ++ [b])] := by unfold flushL; rw [if_neg (by simp)]
    have e0 : plainP L = out ++ [(-1, text)] := by rw [hP]; unfold flushL; rw [if_neg ht]
    obtain ⟨L0, vt, rfl, h0⟩ := plainP_back e0
    have hl0 : (L0 ++ [((-1 : Int), vt, text)]).length = L0.length + 1 := by simp
    rw [e]
    refine (with_more w base v L0 vt text h (by omega) htx b hbase).mono ?_
    rintro e w' ⟨v', L', rfl, ho, hp, hl, hk⟩
    exact ⟨v', L', rfl, ho, by rw [hp, h0], by omega, hk⟩
/-- append(p, piece): a group. -/
theorem append_pc {ops : Array Oper} {rest : List Oper} {o : Oper} {a : Act} {w : World} {Q : Exit → Act → World → Prop} (hgd : o.guard = none) (s x : Operand)
    (ho : o.op = .call { callee := .builtin .append, args := #[s, x], argTypes := #[75, 75] })
    (base : Nat) (v : Value) (L : List PcV) (g : Int) (hs : a.eval s = v) (hown : OwnPs w base v L) (bk : Nat) (hx : a.eval x = .slice (some ⟨bk, 0, none⟩) 1 1) (hbk : w.heap.size = bk) (hsum : L.length + 1 ≤ 4398046511104) (hbase : base ≤ w.heap.size)
    (h : ∀ v' w', OwnPs w' base v' (L ++ [(g, .slice none 0 0, [])]) → AppPost w w' base v v' → wpList Tryd.prog ops Q rest (a.put o.dst v') w') :
    wpList Tryd.prog ops Q (o :: rest) a (w.alloc (.cells #[.int .i64 g, .slice none 0 0] 122)) := by
  subst hbk
  obtain ⟨i0, hi, hz0, hz1, hz2⟩ := info_parts infoP
  refine append_new hgd s x 75 122 i0 (.agg #[.int .i64 0, .slice none 0 0]) 2 32 ho Tryd.underlying75 hi hz0 hz1 hz2 rfl (by decide) base v L.length (cellsP L) hs hown.own 1 [.int .i64 g, .slice none 0 0] _ rfl rfl (fun u hu => ?_) hx (by unfold maxLen; omega) (by omega) hbase ?_
  · simp at hu; rcases hu with rfl | rfl <;> rfl
  · intro v' w' ho' _ hA
    exact h v' w' (hown.push hA ho' (OwnB.nil _ _) (apart_none rfl).symm (fun x _ => apart_none rfl)) hA

/-- The round's relation. -/
def RPInv (w : World) (l : List Mk) (n : Nat) (v i : Value) (wr : World) : Prop :=
  ∃ (k : Nat) (L : List PcV) (out : List Pc) (text : List Int), k ≤ n ∧ i = .int .i64 k ∧ OwnPs wr w.heap.size v L ∧ Below w.heap.size w wr ∧ plainP L = flushL out text ∧ lastOk out ∧
    parseR (l.drop k) out text = parseR l [] [] ∧ L.length ≤ k ∧ text.length ≤ k ∧ IsB text ∧ ∀ y ∈ out, goodP y k
theorem RPInv.byte {w wr w' : World} {l : List Mk} {n k j : Nat} {L : List PcV} {out : List Pc} {text : List Int} {y : Int} {v' i : Value} {L' : List PcV} (hj : j ≤ n) (hi : i = .int .i64 j) (hkj : k < j) (rb : Below w.heap.size w wr) (ho : OwnPs w' w.heap.size v' L') (hP : plainP L' = flushL out (text ++ [y])) (hl' : L'.length ≤ L.length + 1) (hK : KeptW wr w' w.heap.size)
    (hlast : lastOk out) (hp : parseR (l.drop j) out (text ++ [y]) = parseR l [] []) (hL : L.length ≤ k) (ht : text.length ≤ k) (hB : IsB text) (hy0 : 0 ≤ y) (hy1 : y ≤ 255) (hG : ∀ z ∈ out, goodP z k) : RPInv w l n v' i w' :=
  ⟨j, L', out, text ++ [y], hj, hi, ho, hK.1 _ _ rb (Nat.le_refl _), hP, hlast, hp, by omega, by rw [List.length_append]; simp; omega, isB_snoc _ _ hB hy0 hy1, goods_more hG (by omega)⟩
theorem RPInv.grp {w wr w' : World} {l : List Mk} {n k j : Nat} {L : List PcV} {out : List Pc} {text : List Int} {g : Int} {v v' i : Value} (hj : j ≤ n) (hi : i = .int .i64 j) (hkj : k < j) (rb : Below w.heap.size w wr) (ho : OwnPs w' w.heap.size v' (L ++ [(g, .slice none 0 0, [])])) (hA : AppPost wr w' w.heap.size v v') (hP : plainP L = flushL out text)
    (hp : parseR (l.drop j) (flushL out text ++ [(g, [])]) [] = parseR l [] []) (hg0 : 0 ≤ g) (hg1 : g ≤ 9) (hL : L.length ≤ k) (ht : text.length ≤ k) (hB : IsB text) (hG : ∀ z ∈ out, goodP z k) : RPInv w l n v' i w' := by
  refine ⟨j, _, flushL out text ++ [(g, [])], [], hj, hi, ho, hA.bel _ _ rb (Nat.le_refl _), ?_, lastOk_grp _ _ _ (by omega), hp, by rw [List.length_append]; simp; omega, Nat.zero_le _, isB_nil, ?_⟩
  · rw [plainP_append, hP]
    unfold flushL
    rw [if_pos rfl]
    rfl
  · have := goods_flush (n := g) hG hB ht (by omega) hg1
    unfold groupOf at this
    rw [if_pos hg0] at this
    exact goods_more this (by omega)
def RParsePost (w : World) (l : List Mk) (e : Ending) (w' : World) : Prop :=
  Below w.heap.size w w' ∧ match parseR l [] [] with
  | some q => ∃ v L, e = .returned (.tuple #[v, .int .i64 0, .int .i64 0]) ∧ OwnPs w' w.heap.size v L ∧ plainP L = q ∧ L.length ≤ l.length ∧ ∀ y ∈ q, goodP y l.length
  | none => e = .returned (.tuple #[.slice none 0 0, .int .i64 61, .int .i64 ((l.length : Int) - 1)])
theorem rpost_some {w w' : World} {l : List Mk} {out : List Pc} {text : List Int} {v : Value} {L : List PcV} {n : Nat} (hn : l.length = n) (h : parseR (l.drop n) out text = parseR l [] []) (hb : Below w.heap.size w w') (ho : OwnPs w' w.heap.size v L)
    (hp : plainP L = flushL out text) (hl : L.length ≤ n) (hB : IsB text) (ht : text.length ≤ n) (hG : ∀ y ∈ out, goodP y n) : RParsePost w l (.returned (.tuple #[v, .int .i64 0, .int .i64 0])) w' := by
  subst hn
  rw [List.drop_length, parse_nil] at h
  unfold RParsePost
  rw [← h]
  refine ⟨hb, v, L, rfl, ho, hp, hl, ?_⟩
  have := goods_flush (n := -1) hG hB ht (by omega) (by omega)
  unfold groupOf at this
  rw [if_neg (by omega), List.append_nil] at this
  exact this
theorem rpost_none {w w' : World} {l : List Mk} {e : Ending} {z : Int} (h : none = parseR l [] []) (hb : Below w.heap.size w w') (hz : (l.length : Int) - 1 = z) (he : e = .returned (.tuple #[.slice none 0 0, .int .i64 61, .int .i64 z])) : RParsePost w l e w' := by
  unfold RParsePost; rw [← h]; exact ⟨hb, by rw [hz]; exact he⟩

set_option maxHeartbeats 4000000 in
set_option maxRecDepth 100000 in
theorem rparse_any (w : World) (a : Option Addr) (n c : Nat) (l : List Mk) (hb : SM w (.slice a n c) l) (hn : n ≤ 2147483648) :
    Calls Tryd.prog 31 #[.slice a n c] w (RParsePost w l) := by
  obtain ⟨hl, _⟩ := hb.len
  have HL := Lib.hid hl
  clear hl
  go_enter Tryd.func31, Tryd.ntmps31
  go_wp2_with fail
  go_loopw [5, 6] (fun v i wr => RPInv w l n v i wr) (fun _ i _ => n - (intOf i).toNat)
  case atStart => exact ⟨0, [], [], [], Nat.zero_le _, rfl, OwnPs.nil _ _, Below.refl _ _, rfl, .inl rfl, rfl, Nat.le_refl _, Nat.le_refl _, isB_nil, fun y h => by simp at h⟩
  case round =>
    obtain ⟨k, L, out, text, hk, rfl, hO, rb, hP, hlast, hp, hLk, htk, hB, hG⟩ := hrel
    have hbs := rb.size
    have HO := Lib.hid hO
    have HF := Lib.hid (And.intro hP hlast)
    have HP := Lib.hid hp
    have HB := Lib.hid hB
    have HG := Lib.hid hG
    obtain ⟨av, cv, hv⟩ := own_shape hO.own
    subst hv
    clear hO hP hlast hp hB hG
    by_cases hlt : k < n
    · have s1 := hb.below rb
      obtain ⟨b, o, rfl, hc⟩ := s1.read k hlt
      obtain ⟨c1, c2⟩ := hc k hlt
      have hx := s1.1 k
      have hdr := drop_consG l (0, false) k (by rw [HL.out]; exact hlt)
      have HC := Lib.hid hc
      have HSM := Lib.hid s1
      clear hc s1
      generalize l[k]?.getD (0, false) = x at c1 c2 hx hdr
      obtain ⟨xb, xp⟩ := x
      simp only at c1 c2 hx
      rw [hdr] at HP
      have hb2 := (Below.refl wr.heap.size wr).alloc (Nat.le_refl _) (.cells #[.int .u8 xb, .bool xp] 82)
      have hs2 := hb2.size
      have HO2 := Lib.hid (HO.out.below hb2)
      have rb2 := rb.trans (hb2.mono hbs)
      clear hdr
      by_cases hbyte : ((xb, xp) : Mk) ≠ (38, false) ∧ ((xb, xp) : Mk) ≠ (92, false)
      · have HP1 := Lib.hid ((parse_byte (xb, xp) (l.drop (k + 1)) out text hbyte.1 hbyte.2).symm.trans HP.out)
        have HW := Lib.hid (with_any _ w.heap.size _ L out text HO2.out HF.out.1 HF.out.2 (by omega) (by omega) xb (Nat.le_trans hbs hs2))
        have HX := Lib.hid hx
        cases xp with
        | true =>
          clear HP hbyte HC HSM
          go_wp2_with fail
          refine HW.out.mono ?_
          rintro e w3 ⟨v', L', rfl, ho, hp', hl', hK⟩
          have HR := Lib.hid (fun (i : Value) (hi : i = .int .i64 ((k + 1 : Nat) : Int)) => RPInv.byte (n := n) (j := k + 1) (by omega) hi (by omega) rb2 ho hp' hl' hK HF.out.2 HP1.out hLk htk HB.out HX.out.1 HX.out.2 HG.out)
          clear ho hp' hl' hK HW
          go_wp2_with fail
          go_roundw
          case rel => exact HR.out _ (by go_num)
          case measure => simp [intOf]; omega
        | false =>
          have q1 : (xb != 38) = true := by rw [bne_iff_ne]; intro e; exact hbyte.1 (by rw [e])
          have q2 : (xb != 92) = true := by rw [bne_iff_ne]; intro e; exact hbyte.2 (by rw [e])
          clear HP hbyte HC HSM
          go_wp2_with fail
          refine HW.out.mono ?_
          rintro e w3 ⟨v', L', rfl, ho, hp', hl', hK⟩
          have HR := Lib.hid (fun (i : Value) (hi : i = .int .i64 ((k + 1 : Nat) : Int)) => RPInv.byte (n := n) (j := k + 1) (by omega) hi (by omega) rb2 ho hp' hl' hK HF.out.2 HP1.out hLk htk HB.out HX.out.1 HX.out.2 HG.out)
          clear ho hp' hl' hK HW
          go_wp2_with fail
          go_roundw
          case rel => exact HR.out _ (by go_num)
          case measure => simp [intOf]; omega
      · by_cases h38 : ((xb, xp) : Mk) = (38, false)
        · simp only [Prod.mk.injEq] at h38
          obtain ⟨rfl, rfl⟩ := h38
          have HP1 := Lib.hid ((parse_amp (l.drop (k + 1)) out text).symm.trans HP.out)
          clear HP hbyte HC HSM
          go_wp2_with (at_builtin; refine append_pc rfl (.tmp 38) (.tmp 40) rfl w.heap.size _ L 0 rfl HO2.out _ rfl (by simp) (by omega) (Nat.le_trans hbs hs2) ?_)
          intro v' w3 ho hA
          have HR := Lib.hid (fun (i : Value) (hi : i = .int .i64 ((k + 1 : Nat) : Int)) => RPInv.grp (n := n) (j := k + 1) (by omega) hi (by omega) rb2 ho hA HF.out.1 HP1.out (by omega) (by omega) hLk htk HB.out HG.out)
          clear ho hA
          go_wp2_with fail
          go_roundw
          case rel => exact HR.out _ (by go_num)
          case measure => simp [intOf]; omega
        · have h92 : ((xb, xp) : Mk) = (92, false) := by
            by_cases e : ((xb, xp) : Mk) = (92, false)
            · exact e
            · exact absurd ⟨h38, e⟩ hbyte
          simp only [Prod.mk.injEq] at h92
          obtain ⟨rfl, rfl⟩ := h92
          clear hbyte h38
          by_cases hend : k + 1 = n
          · have hnil : l.drop (k + 1) = [] := List.drop_of_length_le (by rw [HL.out]; omega)
            rw [hnil] at HP
            have HP1 := Lib.hid ((parse_end out text).symm.trans HP.out)
            have hq : ((k : Int) + 1 == (n : Int)) = true := by simp; omega
            clear HP HC HSM hnil
            go_wp2_with fail
            go_ret3
            exact rpost_none HP1.out rb2 (by rw [HL.out]; omega) rfl
          · have hlt2 : k + 1 < n := by omega
            have hq : ((k : Int) + 1 == (n : Int)) = false := by simp; omega
            obtain ⟨d1, d2⟩ := HC.out (k + 1) hlt2
            have hy := HSM.out.1 (k + 1)
            have hdr := drop_consG l (0, false) (k + 1) (by rw [HL.out]; exact hlt2)
            have d1 := (hb2.cell (World.block_lt_of_cell? _ _ d1)).trans d1
            have d2 := (hb2.cell (World.block_lt_of_cell? _ _ d2)).trans d2
            generalize l[k + 1]?.getD (0, false) = y at d1 d2 hy hdr
            obtain ⟨yb, yp⟩ := y
            simp only at d1 d2 hy
            rw [hdr] at HP
            have HY := Lib.hid hy
            obtain ⟨hy0, hy1⟩ := hy
            have hb3 := hb2.alloc hs2 (.cells #[.int .u8 yb, .bool yp] 82)
            have HO3 := Lib.hid (HO.out.below hb3)
            have rb3 := rb.trans (hb3.mono hbs)
            have hs3 := rb3.size
            clear hdr HC HSM HO2
            cases hg : isGrp (yb, yp) with
            | true =>
              have HP1 := Lib.hid ((parse_grp (yb, yp) (l.drop (k + 1 + 1)) out text hg).symm.trans HP.out)
              unfold isGrp at hg
              cases yp with
              | true => simp at hg
              | false =>
                have hg' : 49 ≤ yb ∧ yb ≤ 57 := by simpa using hg
                have g1 : decide (49 ≤ yb) = true := by simpa using hg'.1
                have g2 : decide (yb ≤ 57) = true := by simpa using hg'.2
                have hw1 : IntKind.u8.wrap (yb - 48) = yb - 48 := IntWalk.u8_in _ (by omega)
                have hw2 : IntKind.i64.wrap (yb - 48) = yb - 48 := IntWalk.i64_in _ (by omega)
                clear hg HP
                go_wp2_with (at_builtin; refine append_pc rfl (.tmp 72) (.tmp 78) rfl w.heap.size _ L (yb - 48) rfl HO3.out _ rfl (by simp) (by omega) hs3 ?_)
                intro v' w3 ho hA
                have HR := Lib.hid (fun (i : Value) (hi : i = .int .i64 ((k + 2 : Nat) : Int)) => RPInv.grp (n := n) (j := k + 2) (by omega) hi (by omega) rb3 ho hA HF.out.1 HP1.out (by omega) (by omega) hLk htk HB.out HG.out)
                clear ho hA
                go_wp2_with fail
                go_roundw
                case rel => exact HR.out _ (by go_num)
                case measure => simp [intOf]; omega
            | false =>
              have hesc := (parse_esc (yb, yp) (l.drop (k + 1 + 1)) out text hg).symm.trans HP.out
              unfold isGrp at hg
              have HW := Lib.hid (fun b => with_any _ w.heap.size _ L out text HO3.out HF.out.1 HF.out.2 (by omega) (by omega) b hs3)
              clear HP
              cases yp with
              | true =>
                have HP1 := Lib.hid (show parseR (l.drop (k + 2)) out (text ++ [yb]) = parseR l [] [] from hesc)
                have HW := Lib.hid (HW.out yb)
                clear hg hesc
                go_wp2_with fail
                refine HW.out.mono ?_
                rintro e w3 ⟨v', L', rfl, ho, hp', hl', hK⟩
                have HR := Lib.hid (fun (i : Value) (hi : i = .int .i64 ((k + 2 : Nat) : Int)) => RPInv.byte (n := n) (j := k + 2) (by omega) hi (by omega) rb3 ho hp' hl' hK HF.out.2 HP1.out hLk htk HB.out HY.out.1 HY.out.2 HG.out)
                clear ho hp' hl' hK HW
                go_wp2_with fail
                go_roundw
                case rel => exact HR.out _ (by go_num)
                case measure => simp [intOf]; omega
              | false =>
                have hg' : ¬ (49 ≤ yb ∧ yb ≤ 57) := by simpa using hg
                by_cases hn10 : yb = 110
                · subst hn10
                  have HP1 := Lib.hid (show parseR (l.drop (k + 2)) out (text ++ [10]) = parseR l [] [] from hesc)
                  have HW := Lib.hid (HW.out 10)
                  have HY : Hid ((0 : Int) ≤ 10 ∧ (10 : Int) ≤ 255) := Lib.hid (by omega)
                  clear hg hesc hg'
                  go_wp2_with fail
                  refine HW.out.mono ?_
                  rintro e w3 ⟨v', L', rfl, ho, hp', hl', hK⟩
                  have HR := Lib.hid (fun (i : Value) (hi : i = .int .i64 ((k + 2 : Nat) : Int)) => RPInv.byte (n := n) (j := k + 2) (by omega) hi (by omega) rb3 ho hp' hl' hK HF.out.2 HP1.out hLk htk HB.out HY.out.1 HY.out.2 HG.out)
                  clear ho hp' hl' hK HW
                  go_wp2_with fail
                  go_roundw
                  case rel => exact HR.out _ (by go_num)
                  case measure => simp [intOf]; omega
                · have HP1 := Lib.hid (show parseR (l.drop (k + 2)) out (text ++ [yb]) = parseR l [] [] from by
                    have : escB (yb, false) = yb := by unfold escB; rw [if_neg (by simp [hn10])]
                    rw [this] at hesc
                    exact hesc)
                  have q3 : (yb == 110) = false := beq_eq_false_iff_ne.2 hn10
                  have HW := Lib.hid (HW.out yb)
                  clear hg hesc hn10
                  by_cases g1 : 49 ≤ yb
                  · have g1' : decide (49 ≤ yb) = true := by simpa using g1
                    have g2' : decide (yb ≤ 57) = false := by simp; omega
                    clear hg' g1
                    go_wp2_with fail
                    refine HW.out.mono ?_
                    rintro e w3 ⟨v', L', rfl, ho, hp', hl', hK⟩
                    have HR := Lib.hid (fun (i : Value) (hi : i = .int .i64 ((k + 2 : Nat) : Int)) => RPInv.byte (n := n) (j := k + 2) (by omega) hi (by omega) rb3 ho hp' hl' hK HF.out.2 HP1.out hLk htk HB.out HY.out.1 HY.out.2 HG.out)
                    clear ho hp' hl' hK HW
                    go_wp2_with fail
                    go_roundw
                    case rel => exact HR.out _ (by go_num)
                    case measure => simp [intOf]; omega
                  · have g1' : decide (49 ≤ yb) = false := by simpa using g1
                    clear hg' g1
                    go_wp2_with fail
                    refine HW.out.mono ?_
                    rintro e w3 ⟨v', L', rfl, ho, hp', hl', hK⟩
                    have HR := Lib.hid (fun (i : Value) (hi : i = .int .i64 ((k + 2 : Nat) : Int)) => RPInv.byte (n := n) (j := k + 2) (by omega) hi (by omega) rb3 ho hp' hl' hK HF.out.2 HP1.out hLk htk HB.out HY.out.1 HY.out.2 HG.out)
                    clear ho hp' hl' hK HW
                    go_wp2_with fail
                    go_roundw
                    case rel => exact HR.out _ (by go_num)
                    case measure => simp [intOf]; omega
    · obtain rfl : k = n := by omega
      have HR := Lib.hid (rpost_some HL.out HP.out rb HO.out HF.out.1 hLk HB.out htk HG.out)
      go_wp2_with fail
      go_ret3
      exact HR.out
end Go.Proofs.YtdbkoephkdfbfaaDoor
