/-
  galleyref28.word: what an option word does.
-/
import Derived.Test.YtgepjjpcokbpjaaDoorRefSz
namespace Go.Proofs.YtgepjjpcokbpjaaDoor
open Go.RowKit

/-- What a call may do that appends to a row. -/
structure WPost (w w' : World) (N : Nat) (pv pv' : Value) : Prop where
  bel : ∀ B w0, Below B w0 w → B ≤ N → Below B w0 w'
  block : ∀ k, k < w.heap.size → pv.ownBlock ≠ some k → w'.heap[k]? = w.heap[k]?
  size : w.heap.size ≤ w'.heap.size
  new : ∀ k, pv'.ownBlock = some k → pv.ownBlock = some k ∨ w.heap.size ≤ k
theorem WPost.of_below {w w' : World} {N : Nat} {pv : Value} (h : Below w.heap.size w w') (hN : N ≤ w.heap.size) : WPost w w' N pv pv :=
  ⟨fun _ _ hb hle => hb.trans (h.mono (by omega)), fun k hk _ => h.block k hk, h.size, fun _ e => .inl e⟩
def WordRel (w w' : World) (N : Nat) (o : Opt) (pv : Value) (l : List Str) (o2 : Opt) (pv2 : Value) (k : Nat) (ec : Int) (of : Str) : Prop :=
  WPost w w' N pv pv2 ∧ ((ec = 0 ∧ of = ByteArray.empty ∧ parF (l.drop k) o2 = parF l o ∧ 1 ≤ k ∧ k ≤ l.length ∧ OwnPt w' N pv2 o2.parts ∧ o2.files = [] ∧ o2.parts.length ≤ o.parts.length + 1) ∨ (ec ≠ 0 ∧ parF l o = (opt0, ec, of)))
def WordPost (w : World) (N : Nat) (o : Opt) (pv : Value) (l : List Str) (e : Ending) (w' : World) : Prop :=
  ∃ (o2 : Opt) (ap2 : Option Addr) (np2 cp2 : Nat) (k : Nat) (ec : Int) (of : Str), e = .returned (.tuple #[.agg (fullO o2 (.slice ap2 np2 cp2) (.slice none 0 0)), .int .i64 k, .int .i64 ec, .string of]) ∧ WordRel w w' N o pv l o2 (.slice ap2 np2 cp2) k ec of
def strOf : Value → Nat
  | .string t => t.size
  | _ => 0
theorem ext_ext (s : Str) (p n : Nat) (h : p + n ≤ s.size) : (s.extract p s.size).extract n (s.extract p s.size).size = s.extract (p + n) s.size := by
  apply ByteArray.ext_getElem
  · simp only [ByteArray.size_extract]; omega
  · intro i h1 h2
    rw [ByteArray.getElem_extract, ByteArray.getElem_extract, ByteArray.getElem_extract]
    congr 1
    omega
theorem tail_ext (w : Str) (p : Nat) (h1 : 1 < w.size) (h : p ≤ (tailW w).size) : (tailW w).extract p (tailW w).size = w.extract (p + 1) w.size := by
  have := tail_size w h1
  unfold tailW
  rw [ext_ext w 1 p (by omega), Nat.add_comm]
theorem WPost.fin {w wr w2 : World} {N B : Nat} {o : Opt} {pv pv' fv : Value} {cs : Array Value} (hB : w.heap.size = B) (hN : N ≤ B) (h : BX w wr B o pv fv) (hp : AppPost wr w2 N pv pv') : WPost w ((w2.setCell ⟨B, 4, none⟩ pv').setRow (B + 1) cs) N pv pv' := by
  have hlt := (Array.getElem?_eq_some_iff.1 h.res).1
  refine ⟨fun B' w0 hb hle => ?_, fun k hk hne => ?_, ?_, fun k hk => ?_⟩
  · exact below_setRow ((hp.bel _ _ (hb.trans (h.bel.mono (by omega))) hle).setCell (by show B' ≤ B; omega) _) (by omega) _
  · rw [_root_.Go.setRow_other _ _ _ _ (by omega), heap_setCell_other _ ⟨B, 4, none⟩ k _ (by simp; omega), hp.block k (by omega) hne]
    exact h.bel.block k (by omega)
  · have := hp.size
    have : (((w2.setCell ⟨B, 4, none⟩ pv').setRow (B + 1) cs)).heap.size = w2.heap.size := by simp [World.setRow, World.setCell]
    omega
  · rcases hp.new k hk with e | e
    · exact .inl e
    · exact .inr (by omega)
theorem own_keptW {w w' : World} {base s n : Nat} {e : TypeId} {v : Value} {xs : List Value} (h : w.ownsRow base e s v n xs) (hk : ∀ k, v.ownBlock = some k → w'.heap[k]? = w.heap[k]?) : w'.ownsRow base e s v n xs := by
  refine ⟨h.1, h.2.imp_right fun ⟨g, cap, cur, e, hg, hc, r⟩ => ⟨g, cap, cur, e, hg, ?_, r⟩⟩
  subst e
  rw [hk g rfl]
  exact hc
theorem own_fin {w wr w2 : World} {N B : Nat} {o : Opt} {pv pv' fv : Value} {cs : Array Value} {ps : List Prt} {ps0 : List Prt} (hB : w.heap.size = B) (h : BX w wr B o pv fv) (hp : AppPost wr w2 N pv pv') (ho0 : OwnPt w N pv ps0) (ho : OwnPt w2 N pv' ps) : OwnPt ((w2.setCell ⟨B, 4, none⟩ pv').setRow (B + 1) cs) N pv' ps := by
  have hlt := (Array.getElem?_eq_some_iff.1 h.res).1
  refine own_keptW ho fun k hk => ?_
  have hne : k ≠ B ∧ k ≠ B + 1 := by
    rcases hp.new k hk with e | e
    · have := (World.ownsRow.lt ho0 k e).2; omega
    · omega
  rw [_root_.Go.setRow_other _ _ _ _ (by omega), heap_setCell_other _ ⟨B, 4, none⟩ k _ (by simp; omega)]
theorem BX.over {w wr : World} {B : Nat} {o : Opt} {pv fv : Value} (h : BX w wr B o pv fv) (o2 : Opt) : BX w (wr.setRow B (fullO o2 pv fv)) B o2 pv fv :=
  ⟨setRow_heap wr B _ _ TOpt _ h.box, (_root_.Go.setRow_other wr B (B + 1) _ (by omega)).trans h.res, below_setRow h.bel (Nat.le_refl _) _⟩
theorem BX.grown {w wr w2 : World} {N B : Nat} {o : Opt} {pv pv' fv : Value} {ps0 : List Prt} (hB : w.heap.size = B) (h : BX w wr B o pv fv) (hp : AppPost wr w2 N pv pv') (ho0 : OwnPt w N pv ps0) : w2.heap[B]? = some (.cells (fullO o pv fv) TOpt (0, 0)) ∧ w2.heap[B + 1]? = some (.cells zeroO TOpt (0, 0)) := by
  have hlt := (Array.getElem?_eq_some_iff.1 h.res).1
  have hfar : ∀ k, B ≤ k → pv.ownBlock ≠ some k := fun k hk e => by have := (World.ownsRow.lt ho0 k e).2; omega
  exact ⟨(hp.block _ (by omega) (hfar _ (Nat.le_refl _))).trans h.box, (hp.block _ hlt (hfar _ (by omega))).trans h.res⟩
set_option maxHeartbeats 4000000 in
set_option maxRecDepth 100000 in
theorem refWordO_any (w : World) (N : Nat) (hN : N ≤ w.heap.size) (o : Opt) (ap : Option Addr) (cp : Nat) (hown : OwnPt w N (.slice ap o.parts.length cp) o.parts) (hfl : o.files = []) (hpl : o.parts.length ≤ 4294967296) (a : Option Addr) (n c : Nat) (word : Str) (rest : List Str)
    (hb : TS w (.slice a n c) (word :: rest)) (hio : isOpt word = true) (hdd : word ≠ str [45, 45]) (hws : word.size ≤ 9223372036854775807) :
    Calls Tryd.prog 31 #[.agg (fullO o (.slice ap o.parts.length cp) (.slice none 0 0)), .slice a n c] w (WordPost w N o (.slice ap o.parts.length cp) (word :: rest)) := by
  obtain ⟨hl, -, hnc, hN2⟩ := hb.len
  have hl1 : n = rest.length + 1 := by rw [← hl]; rfl
  obtain ⟨ab, ao, rfl, hrd⟩ := hb.read 0 (by omega)
  have h1w : 1 < word.size := by unfold isOpt at hio; exact (of_decide_eq_true hio).1
  have HB0 := Lib.hid (BX.start w o (.slice ap o.parts.length cp) (.slice none 0 0))
  have hc0 : w.cell? ⟨ab, ao, none⟩ = some (.string word) := hrd 0 (by omega)
  have hcx : ((w.alloc (.cells (fullO o (.slice ap o.parts.length cp) (.slice none 0 0)) TOpt)).alloc (.cells zeroO TOpt)).cell? ⟨ab, ao, none⟩ = some (.string word) := by
    rw [HB0.out.bel.cell (World.block_lt_of_cell? w _ hc0)]; exact hc0
  have HRD := Lib.hid hrd
  have HL := Lib.hid (And.intro hl hl1)
  have HOWN := Lib.hid hown
  have HIO := Lib.hid hio
  have HDD := Lib.hid hdd
  have HFL := Lib.hid hfl
  have hts := tail_size word h1w
  have H1W := Lib.hid h1w
  clear hl hb hown hio hdd hfl hrd hc0 hN2 hl1
  go_enter Tryd.func31, Tryd.ntmps31
  go_upto_region 1 with fail
  have hn1 : 0 < n := by have := HL.out.2; omega
  generalize (w.alloc (.cells #[.bool o.q, .bool o.e, .bool o.a, .bool o.i, .slice ap o.parts.length cp, .slice none 0 0] 28)).alloc (.cells #[.bool false, .bool false, .bool false, .bool false, .slice none 0 0, .slice none 0 0] 28) = w1 at HB0 hcx ⊢
  obtain ⟨B, hBB⟩ : ∃ B, w.heap.size = B := ⟨_, rfl⟩
  rw [hBB] at HB0 hN ⊢
  have HBB := Lib.hid hBB
  clear hBB
  generalize hag : (Value.agg (fullO o (.slice ap o.parts.length cp) (.slice none 0 0))) = ag0
  clear hag
  go_wp2_with fail
  rw [show ByteArray.extract word 1 (ByteArray.size word) = tailW word from rfl]
  obtain ⟨s, hs⟩ : ∃ s, tailW word = s := ⟨_, rfl⟩
  rw [hs] at hts ⊢
  have HW := Lib.hid hs
  have hx0 : s = s.extract 0 s.size := by simp
  have HX0 := Lib.hid hx0
  clear hs hx0 hcx
  go_loopw [8] (fun x wr => ∃ (pos f : Nat) (o' : Opt), x = .string (s.extract pos s.size) ∧ pos ≤ s.size ∧ BX w wr B o' (.slice ap o.parts.length cp) (.slice none 0 0) ∧ letF s f pos o' = letF s s.size 0 o ∧ s.size ≤ pos + f ∧ o'.parts = o.parts ∧ o'.files = []) (fun x _ => strOf x)
  case atStart => exact ⟨0, s.size, o, by rw [← HX0.out], Nat.zero_le _, HB0.out, rfl, by omega, rfl, HFL.out⟩
  case round =>
    clear HB0
    obtain ⟨pos, fuel, o', rfl, hps, hX, hlet, hfu, hop, hof⟩ := hrel
    have HLET := Lib.hid hlet
    have HX := Lib.hid hX
    have HOP := Lib.hid hop
    have HOF := Lib.hid hof
    clear hlet hX hop hof
    obtain ⟨t, ht⟩ : ∃ t, s.extract pos s.size = t := ⟨_, rfl⟩
    have hsz : t.size = s.size - pos := by rw [← ht, ByteArray.size_extract]; omega
    rw [ht]
    have HT := Lib.hid ht
    by_cases hp : pos < s.size
    · have hd : decide (0 < t.size) = true := by simp; omega
      have HSZ := Lib.hid (refSizeP_any wr t (by omega) (by omega))
      obtain ⟨f, rfl⟩ : ∃ f, fuel = f + 1 := ⟨fuel - 1, by omega⟩
      obtain ⟨d1, d2, -⟩ := dec_fact s pos hp
      have hdt : Utf8.decode t 0 = Utf8.decode s pos := by rw [← ht]; exact dec_off s pos hps
      obtain ⟨d, hde⟩ : ∃ d, Utf8.decode s pos = d := ⟨_, rfl⟩
      have HST := Lib.hid (let_stepR s f pos o' hp (t.extract 0 d.2) (by rw [ht, hde]))
      have HEX : Hid (t.extract d.2 t.size = s.extract (pos + d.2) s.size) := Lib.hid (by rw [← ht]; exact ext_ext s pos d.2 (by rw [← hde]; exact d2))
      have HLW : Hid (letOf t d.1 = t.extract 0 d.2) := Lib.hid (by have := let_wid t (by omega); rw [hdt, hde] at this; exact this)
      rw [hdt, hde] at HSZ
      rw [hde] at d1 d2 HST
      obtain ⟨r, m⟩ := d
      simp only at d1 d2 HST HEX HLW HSZ
      clear hdt hde ht
      go_wp2_with fail
      refine HSZ.out.mono ?_
      rintro e w3 ⟨rfl, b3⟩
      have HX3 := Lib.hid (HX.out.below b3)
      clear b3 HX HSZ
      have hm0 : m ≤ t.size := by omega
      have HTS := Lib.hid hsz
      clear hsz
      go_upto_region 6 with fail
      obtain ⟨l, hl⟩ : ∃ l, t.extract 0 m = l := ⟨_, rfl⟩
      obtain ⟨t2, ht2⟩ : ∃ t2, t.extract m t.size = t2 := ⟨_, rfl⟩
      rw [hl] at HST HLW ⊢
      rw [ht2] at HEX ⊢
      have HLE := Lib.hid hl
      clear hl ht2
      have key : ∀ c : UInt8, (ByteArray.toList l == [c]) = decide (l = str [c]) := fun c => by
        have := str_eqd l (str [c])
        rwa [show ByteArray.toList (str [c]) = [c] by rw [Lib.toList_data]; rfl] at this
      have k5 := key 101
      have k6 := key 102
      have HK := Lib.hid (And.intro k5 k6)
      clear key k5 k6
      have HIF : Hid (t2 = word.extract (pos + m + 1) word.size) := Lib.hid (by rw [HEX.out, ← tail_ext word (pos + m) H1W.out (by rw [HW.out]; omega), HW.out])
      have HSL : Hid (l.size = m) := Lib.hid (by rw [← HLE.out, ByteArray.size_extract]; have := HTS.out; omega)
      by_cases hlc : l = str [101]
      · have q5 : (ByteArray.toList l == [101]) = true := by rw [HK.out.1, hlc]; decide
        have q6 : (ByteArray.toList l == [102]) = false := by rw [HK.out.2, hlc]; decide
        have HA : Hid (letF (tailW word) (tailW word).size 0 o = .arg o' false pos) := Lib.hid (by rw [HW.out, ← HLET.out, HST.out, if_pos (.inl hlc), hlc]; rfl)
        have hm1 : m = 1 := by
          have h9 := HLW.out
          have : l.size = 1 := by rw [hlc]; rfl
          have h7 := HSL.out
          omega
        subst hm1
        have HIF2 : Hid (word.extract (pos + 2) word.size = t2) := Lib.hid (by rw [HIF.out])
        have HLC := Lib.hid hlc
        clear hlc
        by_cases hte : t2 = ByteArray.empty
        · have hqe : (ByteArray.toList t2 == []) = true := by rw [nil_eqd]; exact decide_eq_true hte
          have HTE := Lib.hid (HIF2.out.trans hte)
          clear hte
          by_cases hn1 : n = 1
          · have hne : ((n : Int) == 1) = true := by simp [hn1]
            have HR : Hid (parF (word :: rest) o = (opt0, 91, l)) := Lib.hid (by
              have : rest = [] := List.eq_nil_of_length_eq_zero (by have := HL.out.2; omega)
              rw [this, par_use word o o' false pos HIO.out HDD.out HA.out HTE.out, HLC.out]; rfl)
            go_wp2_with (first | (refine wpList_load_row rfl TOpt (.tmp 2) rfl B rfl TOpt _ (0, 0) _ HX3.out.box Tryd.underlying28 rfl infoO ?_) | (refine wpList_store_row rfl TOpt (.tmp 4) (.tmp 40) rfl rfl (B + 1) TOpt _ _ rfl rfl HX3.out.res rfl infoO (by simp [Value.oneCell']) ?_))
            refine ret_box4 (p := 4) (q := 5) (r := 6) (s := 7) rfl rfl (setRow_heap _ _ _ _ _ _ HX3.out.res) Tryd.underlying28 rfl infoO rfl ?_
            exact ⟨o', ap, o.parts.length, cp, 0, 91, l, rfl, WPost.of_below (by rw [HBB.out]; exact below_setRow HX3.out.bel (by omega) _) (by rw [HBB.out]; exact hN), .inr ⟨by decide, HR.out⟩⟩
          · have hne : ((n : Int) == 1) = false := by simp; omega
            obtain ⟨x, rest', hxr⟩ : ∃ x rest', rest = x :: rest' := by
              cases hr : rest with
              | nil => rw [hr] at HL; have := HL.out.2; simp at this; omega
              | cons x r => exact ⟨x, r, rfl⟩
            subst hxr
            have hcx : w3.cell? ⟨ab, ao + 1, none⟩ = some (.string x) := by
              have hh : w.cell? ⟨ab, ao + 1, none⟩ = some (.string x) := HRD.out 1 (by omega)
              rw [HX3.out.bel.cell (by rw [← HBB.out]; exact World.block_lt_of_cell? w _ hh)]; exact hh
            have hn2 : 1 < n := by have := HL.out.2; simp at this; omega
            go_upto_region 13 with fail
            have c4 : w3.cell? ⟨B, 4, none⟩ = some (.slice ap o.parts.length cp) := HX3.out.cell 4
            have f4 : w3.frozen? ⟨B, 4, none⟩ = false := HX3.out.frozen 4
            have HOW3 : Hid (OwnPt w3 N (.slice ap o.parts.length cp) o'.parts) := Lib.hid (by rw [HOP.out]; exact own_belowT HOWN.out (by rw [HBB.out]; exact HX3.out.bel))
            have hbw : N ≤ w3.heap.size := by have := (Array.getElem?_eq_some_iff.1 HX3.out.box).1; omega
            go_wp2_with (at_builtin; refine append_pt rfl (.tmp 46) (.tmp 51) rfl N _ o'.parts false x rfl HOW3.out w3.heap.size rfl rfl (by rw [HOP.out]; omega) hbw ?_)
            intro pv' w4 ho hpp
            obtain ⟨ap2, cp2, hpv⟩ := own_shape ho
            generalize hnn : List.length _ = nn at hpv
            subst hpv
            have HG := Lib.hid (BX.grown HBB.out HX3.out hpp HOWN.out)
            have d4 : w4.cell? ⟨B, 4, none⟩ = some (.slice ap o.parts.length cp) := by rw [cell_of_row w4 B 4 _ _ (0, 0) HG.out.1]; rfl
            have e4 : w4.frozen? ⟨B, 4, none⟩ = false := frozen_of_row w4 B 4 _ _ HG.out.1
            have HZ1 : Hid ((w4.setCell ⟨B, 4, none⟩ (.slice ap2 nn cp2)).heap[B]? = some (.cells (fullO (push o' false x) (.slice ap2 nn cp2) (.slice none 0 0)) TOpt (0, 0))) := Lib.hid (heap_setCell_same w4 B 4 _ TOpt _ HG.out.1)
            have HZ2 : Hid ((w4.setCell ⟨B, 4, none⟩ (.slice ap2 nn cp2)).heap[B + 1]? = some (.cells zeroO TOpt (0, 0))) := Lib.hid ((heap_setCell_other w4 ⟨B, 4, none⟩ (B + 1) _ (by simp)).trans HG.out.2)
            have HO2 := Lib.hid ho
            have HPP := Lib.hid hpp
            clear ho hpp c4 f4 hnn
            go_wp2_with (first | (refine wpList_load_row rfl TOpt (.tmp 2) rfl B rfl TOpt _ (0, 0) _ HZ1.out Tryd.underlying28 rfl infoO ?_) | (refine wpList_store_row rfl TOpt (.tmp 4) (.tmp 54) rfl rfl (B + 1) TOpt _ _ rfl rfl HZ2.out rfl infoO (by simp [Value.oneCell']) ?_))
            refine ret_box4 (p := 4) (q := 5) (r := 6) (s := 7) rfl rfl (setRow_heap _ _ _ _ _ _ HZ2.out) Tryd.underlying28 rfl infoO rfl ?_
            refine ⟨push o' false x, ap2, nn, cp2, 2, 0, ByteArray.empty, rfl, WPost.fin HBB.out hN HX3.out HPP.out, .inl ⟨rfl, rfl, ?_, by omega, by have := HL.out.1; have := HL.out.2; simp only [List.length_cons]; omega, own_fin HBB.out HX3.out HPP.out HOWN.out HO2.out, HOF.out, by simp [push, HOP.out]⟩⟩
            show parF rest' (push o' false x) = _
            rw [par_need word x rest' o o' false pos HIO.out HDD.out HA.out HTE.out]
        · have hqe : (ByteArray.toList t2 == []) = false := by rw [nil_eqd]; exact decide_eq_false hte
          have HTE : Hid (word.extract (pos + 2) word.size ≠ ByteArray.empty) := Lib.hid (by rw [HIF2.out]; exact hte)
          clear hte
          go_upto_region 13 with fail
          have c4 : w3.cell? ⟨B, 4, none⟩ = some (.slice ap o.parts.length cp) := HX3.out.cell 4
          have f4 : w3.frozen? ⟨B, 4, none⟩ = false := HX3.out.frozen 4
          have HOW3 : Hid (OwnPt w3 N (.slice ap o.parts.length cp) o'.parts) := Lib.hid (by rw [HOP.out]; exact own_belowT HOWN.out (by rw [HBB.out]; exact HX3.out.bel))
          have hbw : N ≤ w3.heap.size := by have := (Array.getElem?_eq_some_iff.1 HX3.out.box).1; omega
          go_wp2_with (at_builtin; refine append_pt rfl (.tmp 46) (.tmp 51) rfl N _ o'.parts false t2 rfl HOW3.out w3.heap.size rfl rfl (by rw [HOP.out]; omega) hbw ?_)
          intro pv' w4 ho hpp
          obtain ⟨ap2, cp2, hpv⟩ := own_shape ho
          generalize hnn : List.length _ = nn at hpv
          subst hpv
          have HG := Lib.hid (BX.grown HBB.out HX3.out hpp HOWN.out)
          have d4 : w4.cell? ⟨B, 4, none⟩ = some (.slice ap o.parts.length cp) := by rw [cell_of_row w4 B 4 _ _ (0, 0) HG.out.1]; rfl
          have e4 : w4.frozen? ⟨B, 4, none⟩ = false := frozen_of_row w4 B 4 _ _ HG.out.1
          have HZ1 : Hid ((w4.setCell ⟨B, 4, none⟩ (.slice ap2 nn cp2)).heap[B]? = some (.cells (fullO (push o' false t2) (.slice ap2 nn cp2) (.slice none 0 0)) TOpt (0, 0))) := Lib.hid (heap_setCell_same w4 B 4 _ TOpt _ HG.out.1)
          have HZ2 : Hid ((w4.setCell ⟨B, 4, none⟩ (.slice ap2 nn cp2)).heap[B + 1]? = some (.cells zeroO TOpt (0, 0))) := Lib.hid ((heap_setCell_other w4 ⟨B, 4, none⟩ (B + 1) _ (by simp)).trans HG.out.2)
          have HO2 := Lib.hid ho
          have HPP := Lib.hid hpp
          clear ho hpp c4 f4 hnn
          go_wp2_with (first | (refine wpList_load_row rfl TOpt (.tmp 2) rfl B rfl TOpt _ (0, 0) _ HZ1.out Tryd.underlying28 rfl infoO ?_) | (refine wpList_store_row rfl TOpt (.tmp 4) (.tmp 54) rfl rfl (B + 1) TOpt _ _ rfl rfl HZ2.out rfl infoO (by simp [Value.oneCell']) ?_))
          refine ret_box4 (p := 4) (q := 5) (r := 6) (s := 7) rfl rfl (setRow_heap _ _ _ _ _ _ HZ2.out) Tryd.underlying28 rfl infoO rfl ?_
          refine ⟨push o' false t2, ap2, nn, cp2, 1, 0, ByteArray.empty, rfl, WPost.fin HBB.out hN HX3.out HPP.out, .inl ⟨rfl, rfl, ?_, by omega, by have := HL.out.1; have := HL.out.2; simp only [List.length_cons]; omega, own_fin HBB.out HX3.out HPP.out HOWN.out HO2.out, HOF.out, by simp [push, HOP.out]⟩⟩
          show parF rest (push o' false t2) = _
          rw [par_arg word rest o o' false pos HIO.out HDD.out HA.out HTE.out, HIF2.out]
      have n5 := hlc
      clear hlc
      by_cases hlc : l = str [102]
      · have q5 : (ByteArray.toList l == [101]) = false := by rw [HK.out.1, hlc]; decide
        have q6 : (ByteArray.toList l == [102]) = true := by rw [HK.out.2, hlc]; decide
        have HA : Hid (letF (tailW word) (tailW word).size 0 o = .arg o' true pos) := Lib.hid (by rw [HW.out, ← HLET.out, HST.out, if_pos (.inr hlc), hlc]; rfl)
        have hm1 : m = 1 := by
          have h9 := HLW.out
          have : l.size = 1 := by rw [hlc]; rfl
          have h7 := HSL.out
          omega
        subst hm1
        have HIF2 : Hid (word.extract (pos + 2) word.size = t2) := Lib.hid (by rw [HIF.out])
        have HLC := Lib.hid hlc
        clear hlc
        by_cases hte : t2 = ByteArray.empty
        · have hqe : (ByteArray.toList t2 == []) = true := by rw [nil_eqd]; exact decide_eq_true hte
          have HTE := Lib.hid (HIF2.out.trans hte)
          clear hte
          by_cases hn1 : n = 1
          · have hne : ((n : Int) == 1) = true := by simp [hn1]
            have HR : Hid (parF (word :: rest) o = (opt0, 91, l)) := Lib.hid (by
              have : rest = [] := List.eq_nil_of_length_eq_zero (by have := HL.out.2; omega)
              rw [this, par_use word o o' true pos HIO.out HDD.out HA.out HTE.out, HLC.out]; rfl)
            go_wp2_with (first | (refine wpList_load_row rfl TOpt (.tmp 2) rfl B rfl TOpt _ (0, 0) _ HX3.out.box Tryd.underlying28 rfl infoO ?_) | (refine wpList_store_row rfl TOpt (.tmp 4) (.tmp 40) rfl rfl (B + 1) TOpt _ _ rfl rfl HX3.out.res rfl infoO (by simp [Value.oneCell']) ?_))
            refine ret_box4 (p := 4) (q := 5) (r := 6) (s := 7) rfl rfl (setRow_heap _ _ _ _ _ _ HX3.out.res) Tryd.underlying28 rfl infoO rfl ?_
            exact ⟨o', ap, o.parts.length, cp, 0, 91, l, rfl, WPost.of_below (by rw [HBB.out]; exact below_setRow HX3.out.bel (by omega) _) (by rw [HBB.out]; exact hN), .inr ⟨by decide, HR.out⟩⟩
          · have hne : ((n : Int) == 1) = false := by simp; omega
            obtain ⟨x, rest', hxr⟩ : ∃ x rest', rest = x :: rest' := by
              cases hr : rest with
              | nil => rw [hr] at HL; have := HL.out.2; simp at this; omega
              | cons x r => exact ⟨x, r, rfl⟩
            subst hxr
            have hcx : w3.cell? ⟨ab, ao + 1, none⟩ = some (.string x) := by
              have hh : w.cell? ⟨ab, ao + 1, none⟩ = some (.string x) := HRD.out 1 (by omega)
              rw [HX3.out.bel.cell (by rw [← HBB.out]; exact World.block_lt_of_cell? w _ hh)]; exact hh
            have hn2 : 1 < n := by have := HL.out.2; simp at this; omega
            go_upto_region 13 with fail
            have c4 : w3.cell? ⟨B, 4, none⟩ = some (.slice ap o.parts.length cp) := HX3.out.cell 4
            have f4 : w3.frozen? ⟨B, 4, none⟩ = false := HX3.out.frozen 4
            have HOW3 : Hid (OwnPt w3 N (.slice ap o.parts.length cp) o'.parts) := Lib.hid (by rw [HOP.out]; exact own_belowT HOWN.out (by rw [HBB.out]; exact HX3.out.bel))
            have hbw : N ≤ w3.heap.size := by have := (Array.getElem?_eq_some_iff.1 HX3.out.box).1; omega
            go_wp2_with (at_builtin; refine append_pt rfl (.tmp 46) (.tmp 51) rfl N _ o'.parts true x rfl HOW3.out w3.heap.size rfl rfl (by rw [HOP.out]; omega) hbw ?_)
            intro pv' w4 ho hpp
            obtain ⟨ap2, cp2, hpv⟩ := own_shape ho
            generalize hnn : List.length _ = nn at hpv
            subst hpv
            have HG := Lib.hid (BX.grown HBB.out HX3.out hpp HOWN.out)
            have d4 : w4.cell? ⟨B, 4, none⟩ = some (.slice ap o.parts.length cp) := by rw [cell_of_row w4 B 4 _ _ (0, 0) HG.out.1]; rfl
            have e4 : w4.frozen? ⟨B, 4, none⟩ = false := frozen_of_row w4 B 4 _ _ HG.out.1
            have HZ1 : Hid ((w4.setCell ⟨B, 4, none⟩ (.slice ap2 nn cp2)).heap[B]? = some (.cells (fullO (push o' true x) (.slice ap2 nn cp2) (.slice none 0 0)) TOpt (0, 0))) := Lib.hid (heap_setCell_same w4 B 4 _ TOpt _ HG.out.1)
            have HZ2 : Hid ((w4.setCell ⟨B, 4, none⟩ (.slice ap2 nn cp2)).heap[B + 1]? = some (.cells zeroO TOpt (0, 0))) := Lib.hid ((heap_setCell_other w4 ⟨B, 4, none⟩ (B + 1) _ (by simp)).trans HG.out.2)
            have HO2 := Lib.hid ho
            have HPP := Lib.hid hpp
            clear ho hpp c4 f4 hnn
            go_wp2_with (first | (refine wpList_load_row rfl TOpt (.tmp 2) rfl B rfl TOpt _ (0, 0) _ HZ1.out Tryd.underlying28 rfl infoO ?_) | (refine wpList_store_row rfl TOpt (.tmp 4) (.tmp 54) rfl rfl (B + 1) TOpt _ _ rfl rfl HZ2.out rfl infoO (by simp [Value.oneCell']) ?_))
            refine ret_box4 (p := 4) (q := 5) (r := 6) (s := 7) rfl rfl (setRow_heap _ _ _ _ _ _ HZ2.out) Tryd.underlying28 rfl infoO rfl ?_
            refine ⟨push o' true x, ap2, nn, cp2, 2, 0, ByteArray.empty, rfl, WPost.fin HBB.out hN HX3.out HPP.out, .inl ⟨rfl, rfl, ?_, by omega, by have := HL.out.1; have := HL.out.2; simp only [List.length_cons]; omega, own_fin HBB.out HX3.out HPP.out HOWN.out HO2.out, HOF.out, by simp [push, HOP.out]⟩⟩
            show parF rest' (push o' true x) = _
            rw [par_need word x rest' o o' true pos HIO.out HDD.out HA.out HTE.out]
        · have hqe : (ByteArray.toList t2 == []) = false := by rw [nil_eqd]; exact decide_eq_false hte
          have HTE : Hid (word.extract (pos + 2) word.size ≠ ByteArray.empty) := Lib.hid (by rw [HIF2.out]; exact hte)
          clear hte
          go_upto_region 13 with fail
          have c4 : w3.cell? ⟨B, 4, none⟩ = some (.slice ap o.parts.length cp) := HX3.out.cell 4
          have f4 : w3.frozen? ⟨B, 4, none⟩ = false := HX3.out.frozen 4
          have HOW3 : Hid (OwnPt w3 N (.slice ap o.parts.length cp) o'.parts) := Lib.hid (by rw [HOP.out]; exact own_belowT HOWN.out (by rw [HBB.out]; exact HX3.out.bel))
          have hbw : N ≤ w3.heap.size := by have := (Array.getElem?_eq_some_iff.1 HX3.out.box).1; omega
          go_wp2_with (at_builtin; refine append_pt rfl (.tmp 46) (.tmp 51) rfl N _ o'.parts true t2 rfl HOW3.out w3.heap.size rfl rfl (by rw [HOP.out]; omega) hbw ?_)
          intro pv' w4 ho hpp
          obtain ⟨ap2, cp2, hpv⟩ := own_shape ho
          generalize hnn : List.length _ = nn at hpv
          subst hpv
          have HG := Lib.hid (BX.grown HBB.out HX3.out hpp HOWN.out)
          have d4 : w4.cell? ⟨B, 4, none⟩ = some (.slice ap o.parts.length cp) := by rw [cell_of_row w4 B 4 _ _ (0, 0) HG.out.1]; rfl
          have e4 : w4.frozen? ⟨B, 4, none⟩ = false := frozen_of_row w4 B 4 _ _ HG.out.1
          have HZ1 : Hid ((w4.setCell ⟨B, 4, none⟩ (.slice ap2 nn cp2)).heap[B]? = some (.cells (fullO (push o' true t2) (.slice ap2 nn cp2) (.slice none 0 0)) TOpt (0, 0))) := Lib.hid (heap_setCell_same w4 B 4 _ TOpt _ HG.out.1)
          have HZ2 : Hid ((w4.setCell ⟨B, 4, none⟩ (.slice ap2 nn cp2)).heap[B + 1]? = some (.cells zeroO TOpt (0, 0))) := Lib.hid ((heap_setCell_other w4 ⟨B, 4, none⟩ (B + 1) _ (by simp)).trans HG.out.2)
          have HO2 := Lib.hid ho
          have HPP := Lib.hid hpp
          clear ho hpp c4 f4 hnn
          go_wp2_with (first | (refine wpList_load_row rfl TOpt (.tmp 2) rfl B rfl TOpt _ (0, 0) _ HZ1.out Tryd.underlying28 rfl infoO ?_) | (refine wpList_store_row rfl TOpt (.tmp 4) (.tmp 54) rfl rfl (B + 1) TOpt _ _ rfl rfl HZ2.out rfl infoO (by simp [Value.oneCell']) ?_))
          refine ret_box4 (p := 4) (q := 5) (r := 6) (s := 7) rfl rfl (setRow_heap _ _ _ _ _ _ HZ2.out) Tryd.underlying28 rfl infoO rfl ?_
          refine ⟨push o' true t2, ap2, nn, cp2, 1, 0, ByteArray.empty, rfl, WPost.fin HBB.out hN HX3.out HPP.out, .inl ⟨rfl, rfl, ?_, by omega, by have := HL.out.1; have := HL.out.2; simp only [List.length_cons]; omega, own_fin HBB.out HX3.out HPP.out HOWN.out HO2.out, HOF.out, by simp [push, HOP.out]⟩⟩
          show parF rest (push o' true t2) = _
          rw [par_arg word rest o o' true pos HIO.out HDD.out HA.out HTE.out, HIF2.out]
      have n6 := hlc
      clear hlc
      have q5 : (ByteArray.toList l == [101]) = false := by rw [HK.out.1]; exact decide_eq_false n5
      have q6 : (ByteArray.toList l == [102]) = false := by rw [HK.out.2]; exact decide_eq_false n6
      have HST2 : Hid (letF s (f + 1) pos o' = if (ltrR o' l).2 = true then letF s f (pos + m) (ltrR o' l).1 else .bad r pos) := Lib.hid (by rw [HST.out, if_neg (by rintro (h | h); exact n5 h; exact n6 h)])
      clear n5 n6
      have HLT := Lib.hid (refLetter_any w3 o' ap o.parts.length cp none 0 0 l)
      obtain ⟨lp1, lp2⟩ := ltr_parts o' l
      have HLP : Hid ((ltrR o' l).1.parts = o.parts ∧ (ltrR o' l).1.files = []) := Lib.hid ⟨lp1.trans HOP.out, lp2.trans HOF.out⟩
      clear lp1 lp2
      obtain ⟨res, hres⟩ : ∃ x, ltrR o' l = x := ⟨_, rfl⟩
      rw [hres] at HLT HST2 HLP
      clear hres
      obtain ⟨o2, ok⟩ := res
      simp only at HLT HST2 HLP
      cases ok with
      | false =>
        have HBAD : Hid (parF (word :: rest) o = (opt0, 90, l)) := Lib.hid (by
          rw [par_bad word rest o r pos HIO.out HDD.out (by rw [HW.out, ← HLET.out, HST2.out, if_neg (by decide)]), ← tail_ext word pos H1W.out (by rw [HW.out]; omega), HW.out, HT.out, HLW.out])
        go_upto_region 15 with fail
        go_wp2_with (refine wpList_load_row rfl TOpt (.tmp 2) rfl B rfl TOpt _ (0, 0) _ HX3.out.box Tryd.underlying28 rfl infoO ?_)
        refine HLT.out.mono ?_
        rintro e w4 ⟨rfl, b4⟩
        have HX4 := Lib.hid (HX3.out.below b4)
        clear b4
        have HALL := Lib.hid ((Below.refl w4.heap.size w4).alloc (Nat.le_refl _) (.cells zeroO TOpt))
        have HN5 := Lib.hid (heap_alloc_new w4 (.cells zeroO TOpt))
        have HB6 : Hid (Below w4.heap.size w4 ((w4.alloc (.cells zeroO TOpt)).setRow w4.heap.size (fullO o2 (.slice ap o.parts.length cp) (.slice none 0 0)))) := Lib.hid (below_setRow HALL.out (Nat.le_refl _) _)
        have HN6 : Hid (((w4.alloc (.cells zeroO TOpt)).setRow w4.heap.size (fullO o2 (.slice ap o.parts.length cp) (.slice none 0 0))).heap[w4.heap.size]? = some (.cells (fullO o2 (.slice ap o.parts.length cp) (.slice none 0 0)) TOpt (0, 0))) := Lib.hid (setRow_heap _ _ _ _ _ _ HN5.out)
        go_upto_region 16 with (refine wpList_store_row rfl TOpt (.tmp 12) (.tmp 60) rfl rfl w4.heap.size TOpt _ _ rfl rfl HN5.out rfl infoO (by simp [Value.oneCell']) ?_)
        have HX6 := Lib.hid (HX4.out.below HB6.out)
        have HG6 : Hid (B + 1 < w4.heap.size) := Lib.hid (Array.getElem?_eq_some_iff.1 HX4.out.res).1
        clear HALL HN5 HB6
        generalize (w4.alloc (.cells zeroO TOpt)).setRow w4.heap.size (fullO o2 (.slice ap o.parts.length cp) (.slice none 0 0)) = w6 at HX6 HN6 ⊢
        generalize w4.heap.size = g at HN6 HG6 ⊢
        go_wp2_with (first | (refine wpList_load_row rfl TOpt (.tmp 2) rfl B rfl TOpt _ (0, 0) _ HX6.out.box Tryd.underlying28 rfl infoO ?_) | (refine wpList_store_row rfl TOpt (.tmp 4) (.tmp 64) rfl rfl (B + 1) TOpt _ _ rfl rfl HX6.out.res rfl infoO (by simp [Value.oneCell']) ?_))
        refine ret_box4 (p := 4) (q := 5) (r := 6) (s := 7) rfl rfl (setRow_heap _ _ _ _ _ _ HX6.out.res) Tryd.underlying28 rfl infoO rfl ?_
        exact ⟨o', ap, o.parts.length, cp, 0, 90, l, rfl, WPost.of_below (by rw [HBB.out]; exact below_setRow HX6.out.bel (by omega) _) (by rw [HBB.out]; exact hN), .inr ⟨by decide, HBAD.out⟩⟩
      | true =>
        have HNX : Hid (letF s f (pos + m) o2 = letF s s.size 0 o) := Lib.hid (by rw [← HLET.out, HST2.out, if_pos rfl])
        go_upto_region 15 with fail
        go_wp2_with (refine wpList_load_row rfl TOpt (.tmp 2) rfl B rfl TOpt _ (0, 0) _ HX3.out.box Tryd.underlying28 rfl infoO ?_)
        refine HLT.out.mono ?_
        rintro e w4 ⟨rfl, b4⟩
        have HX4 := Lib.hid (HX3.out.below b4)
        clear b4
        have HALL := Lib.hid ((Below.refl w4.heap.size w4).alloc (Nat.le_refl _) (.cells zeroO TOpt))
        have HN5 := Lib.hid (heap_alloc_new w4 (.cells zeroO TOpt))
        have HB6 : Hid (Below w4.heap.size w4 ((w4.alloc (.cells zeroO TOpt)).setRow w4.heap.size (fullO o2 (.slice ap o.parts.length cp) (.slice none 0 0)))) := Lib.hid (below_setRow HALL.out (Nat.le_refl _) _)
        have HN6 : Hid (((w4.alloc (.cells zeroO TOpt)).setRow w4.heap.size (fullO o2 (.slice ap o.parts.length cp) (.slice none 0 0))).heap[w4.heap.size]? = some (.cells (fullO o2 (.slice ap o.parts.length cp) (.slice none 0 0)) TOpt (0, 0))) := Lib.hid (setRow_heap _ _ _ _ _ _ HN5.out)
        go_upto_region 16 with (refine wpList_store_row rfl TOpt (.tmp 12) (.tmp 60) rfl rfl w4.heap.size TOpt _ _ rfl rfl HN5.out rfl infoO (by simp [Value.oneCell']) ?_)
        have HX6 := Lib.hid (HX4.out.below HB6.out)
        have HG6 : Hid (B + 1 < w4.heap.size) := Lib.hid (Array.getElem?_eq_some_iff.1 HX4.out.res).1
        clear HALL HN5 HB6
        generalize (w4.alloc (.cells zeroO TOpt)).setRow w4.heap.size (fullO o2 (.slice ap o.parts.length cp) (.slice none 0 0)) = w6 at HX6 HN6 ⊢
        generalize w4.heap.size = g at HN6 HG6 ⊢
        have HX7 := Lib.hid (HX6.out.over o2)
        go_wp2_with (first | (refine wpList_load_row rfl TOpt (.tmp 12) rfl g rfl TOpt _ (0, 0) _ HN6.out Tryd.underlying28 rfl infoO ?_) | (refine wpList_store_row rfl TOpt (.tmp 2) (.tmp 66) rfl rfl B TOpt _ _ rfl rfl HX6.out.box rfl infoO (by simp [Value.oneCell']) ?_))
        refine ⟨?_, ?measure⟩
        iterate 20 (apply Exists.intro)
        repeat (apply Exists.intro)
        refine ⟨?rel, rfl⟩
        case rel => exact ⟨pos + m, f, o2, by rw [HEX.out], d2, HX7.out, HNX.out, by omega, HLP.out.1, HLP.out.2⟩
        case measure =>
          show t2.size < t.size
          rw [HEX.out, HTS.out, ByteArray.size_extract]
          omega
    · have hd : decide (0 < t.size) = false := decide_eq_false (by omega)
      have HDN : Hid (parF (word :: rest) o = parF rest o') := Lib.hid (par_done word rest o o' HIO.out HDD.out (by rw [HW.out, ← HLET.out]; exact let_end s fuel pos o' hp))
      go_wp2_with (first | (refine wpList_load_row rfl TOpt (.tmp 2) rfl B rfl TOpt _ (0, 0) _ HX.out.box Tryd.underlying28 rfl infoO ?_) | (refine wpList_store_row rfl TOpt (.tmp 4) (.tmp 67) rfl rfl (B + 1) TOpt _ _ rfl rfl HX.out.res rfl infoO (by simp [Value.oneCell']) ?_))
      refine ret_box4 (p := 4) (q := 5) (r := 6) (s := 7) rfl rfl (setRow_heap _ _ _ _ _ _ HX.out.res) Tryd.underlying28 rfl infoO rfl ?_
      refine ⟨o', ap, o.parts.length, cp, 1, 0, ByteArray.empty, rfl, WPost.of_below (by rw [HBB.out]; exact below_setRow HX.out.bel (by omega) _) (by rw [HBB.out]; exact hN), .inl ⟨rfl, rfl, HDN.out.symm, by omega, by simp, ?_, HOF.out, by rw [HOP.out]; omega⟩⟩
      rw [HOP.out]
      exact own_belowT HOWN.out (by rw [HBB.out]; exact below_setRow HX.out.bel (by omega) _)
end Go.Proofs.YtgepjjpcokbpjaaDoor
