/-
  galleyref00.Bag: AddPieces; Apart, where pieces, and their texts, were gathered.
-/
import Derived.Test.YtdbkoephkdfbfaaDoorBagK
import Derived.Test.YtdbkoephkdfbfaaDoorBagPc
import Derived.Test.YtdbkoephkdfbfaaDoorOwnP
namespace Go.Proofs.YtdbkoephkdfbfaaDoor
open Go.RowKit

theorem keepT_of_blk {w w' : World} {base bg n : Nat} {fs : List Value} {LT T : TypeId} {bv : Value} {us : List Value} (hbag : BagAt w bg fs) (hown : w.ownsRow base LT 1 bv n us) (hT : T ≠ LT) (hG : T ≠ 69)
    (hb : ∀ k, k < w.heap.size → k ≠ bg → bv.ownBlock ≠ some k → w'.heap[k]? = w.heap[k]?) : KeepT T w w' := fun k cur hk => by
  refine hb k (Array.getElem?_eq_some_iff.1 hk).1 (fun e => ?_) (fun e => ?_)
  · subst e
    unfold BagAt at hbag
    rw [hk] at hbag
    simp only [Option.some.injEq, Obj.cells.injEq] at hbag
    exact hG hbag.2.1
  · rcases hown.2 with ⟨rfl, _⟩ | ⟨g, cap, cur', rfl, _, hg, _⟩
    · simp [Value.ownBlock] at e
    · simp only [Value.ownBlock, Option.some.injEq] at e
      subst e
      rw [hg] at hk
      simp only [Option.some.injEq, Obj.cells.injEq] at hk
      exact hT hk.2.1.symm
/-- AddBytes, whatever stands at the other heads. -/
theorem addBytesK (w : World) (base bg n : Nat) (fs : List Value) (bv : Value) (us : List Value) (ua : Option Addr) (un uc : Nat) (hbag : BagAt w bg fs) (hd : fs[0]? = some bv) (hown : w.ownsRow base 48 1 bv n us) (hl : us.length = n) (hm : n < 400) (hb : base ≤ w.heap.size) :
    Calls Tryd.prog 25 #[.pointer (some ⟨bg, 0, none⟩), .slice ua un uc] w (AddedKPost 0 48 w base bg n fs bv us (.slice ua un uc)) := by
  subst hl
  obtain ⟨rest, rfl⟩ : ∃ rest, fs = bv :: rest := by
    cases fs with
    | nil => simp at hd
    | cons x rest => simp only [List.getElem?_cons_zero, Option.some.injEq] at hd; exact ⟨rest, by rw [hd]⟩
  refine (addBytes_any w base bg bv us rest ua un uc hbag hown hm hb).mono ?_
  rintro e w' ⟨rfl, bv', h⟩
  exact ⟨rfl, bv', h.bag, h.own, fun T hT hG => keepT_of_blk hbag hown hT hG h.blk, h.blk, h.new, h.bel, h.size⟩
set_option maxRecDepth 100000 in
theorem addBytes_full (w : World) (bg n : Nat) (b : Option Addr) (c : Nat) (u : Value) (hc : w.cell? ⟨bg, 0, none⟩ = some (.slice b n c)) (hm : 400 ≤ n) :
    Calls Tryd.prog 25 #[.pointer (some ⟨bg, 0, none⟩), u] w fun e w' => e = .returned undef ∧ w = w' := by
  have hm' : decide ((n : Int) < 400) = false := by simp; omega
  go_enter Tryd.func25, Tryd.ntmps25
  go_wp2_with fail
  go_end0
  exact ⟨rfl, rfl⟩

/-- A bag of pieces and of their texts: mp lists of pieces, all blocks of what was gathered lie below B. -/
structure GQ (W w : World) (bg mp B mb : Nat) (fs : List Value) (bb pb : Value) (vb : Nat → Value) (lb : Nat → Nat) (Cb : Nat → List Value) (vp : Nat → Value) (lp : Nat → Nat) (Cp : Nat → List Value) : Prop where
  bag : BagAt w bg fs
  flen : fs.length = 19
  z : ∀ i, i < 19 → i ≠ 0 → i ≠ 16 → fs[i]? = some (.slice none 0 0)
  kb : Kd w W.heap.size 0 48 5 1 140737488351232 mb fs bb vb lb Cb
  kp : Kd w W.heap.size 16 75 122 2 4398046510976 mp fs pb vp lp Cp
  mb_le : mb ≤ 400
  lo : W.heap.size ≤ bg
  bel : Below W.heap.size W w
  hp : ∀ j, j < mp → ∀ k, (vp j).ownBlock = some k → k < B
def GQs (W w : World) (bg mp B : Nat) : Prop := ∃ mb fs bb pb vb lb Cb vp lp Cp, GQ W w bg mp B mb fs bb pb vb lb Cb vp lp Cp ∧ ∀ j, j < mb → ∀ k, (vb j).ownBlock = some k → k < B
theorem GQs.start {W w : World} (hB : Below W.heap.size W w) (B : Nat) : GQs W (w.alloc (.cells #[.slice none 0 0, .slice none 0 0, .slice none 0 0, .slice none 0 0, .slice none 0 0, .slice none 0 0, .slice none 0 0, .slice none 0 0, .slice none 0 0, .slice none 0 0, .slice none 0 0, .slice none 0 0, .slice none 0 0, .slice none 0 0, .slice none 0 0, .slice none 0 0, .slice none 0 0, .slice none 0 0, .slice none 0 0] 69)) w.heap.size 0 B :=
  ⟨0, heads0, .slice none 0 0, .slice none 0 0, fun _ => undef, fun _ => 0, fun _ => [], fun _ => undef, fun _ => 0, fun _ => [], ⟨BagAt.new0 w, heads0_len, fun i hi _ _ => heads0_at i hi, Kd.none _ _ _ _ _ _ _ _ (heads0_at 0 (by omega)) _ _ _, Kd.none _ _ _ _ _ _ _ _ (heads0_at 16 (by omega)) _ _ _, by omega, hB.size, hB.alloc hB.size _,
    fun _ h => absurd h (Nat.not_lt_zero _)⟩, fun _ h => absurd h (Nat.not_lt_zero _)⟩
theorem neUP : (5 : TypeId) ≠ 75 := by decide
theorem neLLP : (48 : TypeId) ≠ 75 := by decide
theorem nePLs : (122 : TypeId) ≠ 48 := by decide
theorem neLPs : (75 : TypeId) ≠ 48 := by decide
theorem nePU2 : (122 : TypeId) ≠ 5 := by decide
theorem neLPP : (75 : TypeId) ≠ 5 := by decide

/-- While the texts of the list go in. -/
structure GQL (W w : World) (bg mp B B' mb k : Nat) (L : List PcV) (fs : List Value) (bb pb : Value) (vb : Nat → Value) (lb : Nat → Nat) (Cb : Nat → List Value) (vp : Nat → Value) (lp : Nat → Nat) (Cp : Nat → List Value) (v : Value) : Prop where
  g : GQ W w bg mp B' mb fs bb pb vb lb Cb vp lp Cp
  own : OwnPs w W.heap.size v L
  from_ : ∀ j, j < mb → (∀ b, (vb j).ownBlock = some b → b < B) ∨ ∃ (i : Nat) (hi : i < L.length), i < k ∧ vb j = (L[i]).2.1
def GQLs (W w0 w : World) (bg mp B B' k : Nat) (L : List PcV) (v : Value) : Prop := KeepT 5 w0 w ∧ KeepT 122 w0 w ∧ ∃ mb fs bb pb vb lb Cb vp lp Cp, GQL W w bg mp B B' mb k L fs bb pb vb lb Cb vp lp Cp v

theorem OwnPs.keepT {w w' : World} {base : Nat} {v : Value} {L : List PcV} (h : OwnPs w base v L) (h1 : KeepT 5 w w') (h2 : KeepT 122 w w') : OwnPs w' base v L :=
  ⟨h2.own h.own, fun x hx => h1.own (h.txt x hx), h.far, h.sep⟩

theorem GQ.head {W w w' : World} {bg mp B B' mb : Nat} {fs : List Value} {bb pb pb' : Value} {vb : Nat → Value} {lb : Nat → Nat} {Cb : Nat → List Value} {vp : Nat → Value} {lp : Nat → Nat} {Cp : Nat → List Value} {v : Value} {L : List PcV} (h : GQ W w bg mp B mb fs bb pb vb lb Cb vp lp Cp)
    (hA : AddedK 16 75 w w' W.heap.size bg mp fs pb pb' (firstN vp mp) v) (ho : OwnPs w W.heap.size v L) (hl : L.length ≤ 4398046510976) (hv : ∀ k, v.ownBlock = some k → B ≤ k ∧ k < B') (hBB : B ≤ B') :
    GQ W w' bg (mp + 1) B' mb (fs.set 16 pb') bb pb' vb lb Cb (snoc vp mp v) (snoc lp mp L.length) (snoc Cp mp (cellsP L)) := by
  refine ⟨hA.bag, by rw [List.length_set, h.flen], fun i hi h0 h16 => ?_, h.kb.other hA (by decide) neLLP neLG neUP neUG, h.kp.add hA (by rw [h.flen]; omega) nePL nePG ho.own hl (fun j hj k e1 e2 => ?_), h.mb_le, h.lo, hA.bel _ _ h.bel (Nat.le_refl _) h.lo, fun j hj k e => ?_⟩
  · rw [List.getElem?_set_ne (fun e => h16 e.symm)]; exact h.z i hi h0 h16
  · have := h.hp j hj k e1
    have := (hv k e2).1
    omega
  · by_cases e2 : j = mp
    · subst e2; rw [snoc_same] at e; exact (hv k e).2
    · have hj' : j < mp := by omega
      rw [snoc_lt _ _ hj'] at e
      exact Nat.lt_of_lt_of_le (h.hp j hj' k e) hBB
theorem GQL.text {W w w' : World} {bg mp B B' mb k : Nat} {L : List PcV} {fs : List Value} {bb bb' pb : Value} {vb : Nat → Value} {lb : Nat → Nat} {Cb : Nat → List Value} {vp : Nat → Value} {lp : Nat → Nat} {Cp : Nat → List Value} {v : Value} (h : GQL W w bg mp B B' mb k L fs bb pb vb lb Cb vp lp Cp v) (hk : k < L.length)
    (hA : AddedK 0 48 w w' W.heap.size bg mb fs bb bb' (firstN vb mb) (L[k]).2.1) (hmb : mb < 400) (ht : (L[k]).2.2.length ≤ 140737488351232) (hx : ∀ x ∈ L, ∀ b, x.2.1.ownBlock = some b → B ≤ b ∧ b < B') :
    GQL W w' bg mp B B' (mb + 1) (k + 1) L (fs.set 0 bb') bb' pb (snoc vb mb (L[k]).2.1) (snoc lb mb (L[k]).2.2.length) (snoc Cb mb ((L[k]).2.2.map (Value.int .u8))) vp lp Cp v := by
  have hmem := List.getElem_mem hk
  have hsep := List.pairwise_iff_getElem.1 h.own.sep
  refine ⟨⟨hA.bag, by rw [List.length_set, h.g.flen], fun i hi h0 h16 => ?_, h.g.kb.add hA (by rw [h.g.flen]; omega) neUL neUG (h.own.txt _ hmem) ht (fun j hj b e1 e2 => ?_), h.g.kp.other hA (by decide) neLPs neLPG nePLs nePG, by omega, h.g.lo, hA.bel _ _ h.g.bel (Nat.le_refl _) h.g.lo, h.g.hp⟩,
    h.own.keepT (hA.keep _ neUL neUG) (hA.keep _ nePLs nePG), fun j hj => ?_⟩
  · rw [List.getElem?_set_ne (fun e => h0 e.symm)]; exact h.g.z i hi h0 h16
  · rcases h.from_ j hj with h1 | ⟨i, hi, hik, e⟩
    · have := h1 b e1
      have := (hx _ hmem b e2).1
      omega
    · rw [e] at e1
      exact hsep i k hi hk hik b e1 e2
  · by_cases e2 : j = mb
    · subst e2; rw [snoc_same]; exact .inr ⟨k, hk, Nat.lt_succ_self k, rfl⟩
    · have hj' : j < mb := by omega
      rw [snoc_lt _ _ hj']
      rcases h.from_ j hj' with h1 | ⟨i, hi, hik, e⟩
      · exact .inl h1
      · exact .inr ⟨i, hi, by omega, e⟩
theorem GQL.skip {W w : World} {bg mp B B' mb k : Nat} {L : List PcV} {fs : List Value} {bb pb : Value} {vb : Nat → Value} {lb : Nat → Nat} {Cb : Nat → List Value} {vp : Nat → Value} {lp : Nat → Nat} {Cp : Nat → List Value} {v : Value} (h : GQL W w bg mp B B' mb k L fs bb pb vb lb Cb vp lp Cp v) : GQL W w bg mp B B' mb (k + 1) L fs bb pb vb lb Cb vp lp Cp v :=
  ⟨h.g, h.own, fun j hj => (h.from_ j hj).imp_right fun ⟨i, hi, hik, e⟩ => ⟨i, hi, by omega, e⟩⟩
theorem GQL.done {W w : World} {bg mp B B' mb k : Nat} {L : List PcV} {fs : List Value} {bb pb : Value} {vb : Nat → Value} {lb : Nat → Nat} {Cb : Nat → List Value} {vp : Nat → Value} {lp : Nat → Nat} {Cp : Nat → List Value} {v : Value} (h : GQL W w bg mp B B' mb k L fs bb pb vb lb Cb vp lp Cp v) (hx : ∀ x ∈ L, ∀ b, x.2.1.ownBlock = some b → B ≤ b ∧ b < B') (hBB : B ≤ B') : GQs W w bg mp B' :=
  ⟨mb, fs, bb, pb, vb, lb, Cb, vp, lp, Cp, h.g, fun j hj b e => by
    rcases h.from_ j hj with h1 | ⟨i, hi, hik, e2⟩
    · exact Nat.lt_of_lt_of_le (h1 b e) hBB
    · rw [e2] at e; exact (hx _ (List.getElem_mem hi) b e).2⟩

set_option maxHeartbeats 2000000 in
set_option maxRecDepth 100000 in
theorem addPieces_any (W w : World) (bg mp B B' : Nat) (L : List PcV) (v : Value) (hg : GQs W w bg mp B) (hm : mp < 400) (ho : OwnPs w W.heap.size v L) (hl : L.length ≤ 4398046510976) (ht : ∀ x ∈ L, x.2.2.length ≤ 140737488351232)
    (hv : ∀ k, v.ownBlock = some k → B ≤ k ∧ k < B') (hx : ∀ x ∈ L, ∀ k, x.2.1.ownBlock = some k → B ≤ k ∧ k < B') (hBB : B ≤ B') :
    Calls Tryd.prog 36 #[.pointer (some ⟨bg, 0, none⟩), v] w fun e w' => e = .returned undef ∧ KeepT 5 w w' ∧ KeepT 122 w w' ∧ GQs W w' bg (mp + 1) B' := by
  obtain ⟨mb, fs, bb, pb, vb, lb, Cb, vp, lp, Cp, hG, hbB⟩ := hg
  obtain ⟨b, c, hpb⟩ := own_shape hG.kp.own
  subst hpb
  obtain ⟨av, cv, hvv⟩ := own_shape ho.own
  subst hvv
  have hc : w.cell? ⟨bg, 16, none⟩ = some (.slice b mp c) := (hG.bag.cell 16).trans hG.kp.hd
  have hown := hG.kp.own
  have hbase := hG.bel.size
  obtain ⟨n, hn⟩ : ∃ n, L.length = n := ⟨_, rfl⟩
  rw [hn] at ho hv hl ⊢
  have HN := Lib.hid hn
  have HG := Lib.hid hG
  have HO := Lib.hid ho
  have HX := Lib.hid (And.intro ht hx)
  have HV := Lib.hid hv
  have HBB := Lib.hid hbB
  have hm' : decide ((mp : Int) < 400) = true := by simp; omega
  clear hG ho ht hx hv hbB hn
  go_enter Tryd.func36, Tryd.ntmps36
  go_wp2_with (at_builtin; refine append_lg rfl (.tmp 15) (.tmp 17) 65 75 rfl Tryd.underlying65 infoLPc W.heap.size _ mp (firstN vp mp) _ rfl hown rfl rfl (by omega) hbase ?_)
  intro v' w1 hov hold hp
  have hB1 := HG.out.bag.keepT (KeepT.of_app hown hp neLPG)
  obtain ⟨b', c', rfl⟩ := own_shape hov
  have hc1 : w1.cell? ⟨bg, 16, none⟩ = some (.slice b mp c) := (hB1.cell 16).trans HG.out.kp.hd
  have hf1 := hB1.frozen 16
  have hA : AddedK 16 75 w (w1.setCell ⟨bg, 16, none⟩ (.slice b' (mp + 1) c')) W.heap.size bg mp fs (.slice b mp c) (.slice b' (mp + 1) c') (firstN vp mp) (.slice av n cv) := AddedK.of_app HG.out.bag neLPG hown hov hp
  have hG2 := HG.out.head hA HO.out (by rw [HN.out]; exact hl) HV.out hBB
  have HK : Hid (KeepT 5 w (w1.setCell ⟨bg, 16, none⟩ (.slice b' (mp + 1) c')) ∧ KeepT 122 w (w1.setCell ⟨bg, 16, none⟩ (.slice b' (mp + 1) c'))) := Lib.hid ⟨hA.keep _ neUP neUG, hA.keep _ nePL nePG⟩
  have HQ : Hid (GQLs W w (w1.setCell ⟨bg, 16, none⟩ (.slice b' (mp + 1) c')) bg (mp + 1) B B' 0 L (.slice av n cv)) := Lib.hid
    ⟨HK.out.1, HK.out.2, mb, _, bb, _, vb, lb, Cb, _, _, _, hG2, HO.out.keepT HK.out.1 HK.out.2, fun j hj => .inl (HBB.out j hj)⟩
  clear hov hold hp hB1 hc hown hA hG2
  go_wp2_with fail
  go_loopw [4] (fun i wr => ∃ k : Nat, k ≤ n ∧ i = .int .i64 k ∧ GQLs W w wr bg (mp + 1) B B' k L (.slice av n cv)) (fun i _ => n - (intOf i).toNat)
  case atStart => exact ⟨0, Nat.zero_le _, rfl, HQ.out⟩
  case round =>
    clear HQ hc1 hf1
    obtain ⟨k, hk, rfl, hQ⟩ := hrel
    have HQ := Lib.hid hQ
    by_cases hlt : k < n
    · by_cases h400 : k < 400
      · obtain ⟨k1, k2, mb, fs, bb, pb, vb, lb, Cb, vp, lp, Cp, hL⟩ := hQ
        have hkL : k < L.length := by rw [HN.out]; exact hlt
        have hd1 : decide ((k : Int) < 400) = true := by simp; omega
        have ho := hL.own.own
        rw [HN.out] at ho
        obtain ⟨g, cap, he, -⟩ := own_someG ho (by omega)
        simp only [Value.slice.injEq] at he
        obtain ⟨rfl, -, rfl⟩ := he
        have hcell : wr.cell? ⟨g, k * 2 + 1, none⟩ = some (L[k]).2.1 := (World.ownsRow.cellAt ho (k * 2 + 1) (by omega)).trans (cellsP_get L k hkL).2
        obtain ⟨at_, ct, hta⟩ := own_shape (hL.own.txt _ (List.getElem_mem hkL))
        have HTA := Lib.hid hta
        rw [hta] at hcell
        have HLL := Lib.hid hL
        have HK2 := Lib.hid (And.intro k1 k2)
        obtain ⟨bbv, bcv, hbb⟩ := own_shape hL.g.kb.own
        subst hbb
        have HHX := HX.out
        clear hL k1 k2 ho hta HQ
        by_cases hmb : mb < 400
        · have HC := Lib.hid (addBytesK wr W.heap.size bg mb fs _ (firstN vb mb) at_ (L[k]).2.2.length ct HLL.out.g.bag HLL.out.g.kb.hd HLL.out.g.kb.own (firstN_len vb mb) hmb HLL.out.g.bel.size)
          clear HHX
          go_wp2_with fail
          refine HC.out.mono ?_
          rintro e w3 ⟨rfl, bb', hA⟩
          rw [← HTA.out] at hA
          have HR : Hid (GQLs W w w3 bg (mp + 1) B B' (k + 1) L (.slice (some ⟨g, 0, none⟩) n cv)) := Lib.hid
            ⟨HK2.out.1.trans (hA.keep _ neUL neUG), HK2.out.2.trans (hA.keep _ nePLs nePG), mb + 1, _, bb', pb, _, _, _, vp, lp, Cp, HLL.out.text hkL hA hmb (HX.out.1 _ (List.getElem_mem hkL)) HX.out.2⟩
          clear hA HC hcell
          go_wp2_with fail
          go_roundw
          case rel => exact ⟨k + 1, by omega, by go_num, HR.out⟩
          case measure => simp [intOf]; omega
        · have HC := Lib.hid (addBytes_full wr bg mb bbv bcv (.slice at_ (L[k]).2.2.length ct) ((HLL.out.g.bag.cell 0).trans HLL.out.g.kb.hd) (by omega))
          clear HHX
          go_wp2_with fail
          refine HC.out.mono ?_
          rintro e w3 ⟨rfl, rfl⟩
          have HR : Hid (GQLs W w wr bg (mp + 1) B B' (k + 1) L (.slice (some ⟨g, 0, none⟩) n cv)) := Lib.hid
            ⟨HK2.out.1, HK2.out.2, mb, _, _, pb, _, _, _, vp, lp, Cp, HLL.out.skip⟩
          clear HC hcell
          go_wp2_with fail
          go_roundw
          case rel => exact ⟨k + 1, by omega, by go_num, HR.out⟩
          case measure => simp [intOf]; omega
      · have hd1 : decide ((k : Int) < 400) = false := by simp; omega
        clear hQ
        go_wp2_with fail
        go_end0
        obtain ⟨k1, k2, mb, fs, bb, pb, vb, lb, Cb, vp, lp, Cp, hL⟩ := HQ.out
        exact ⟨rfl, k1, k2, hL.done HX.out.2 hBB⟩
    · clear hQ
      go_wp2_with fail
      go_end0
      obtain ⟨k1, k2, mb, fs, bb, pb, vb, lb, Cb, vp, lp, Cp, hL⟩ := HQ.out
      exact ⟨rfl, k1, k2, hL.done HX.out.2 hBB⟩
end Go.Proofs.YtdbkoephkdfbfaaDoor
