/-
  galleyref28.Size, is, letter.
-/
import Derived.Test.YtgepjjpcokbpjaaDoorRefPa
import Derived.Deep.CutBlock
import Derived.Deep.DeepCutAuto
namespace Go.Proofs.YtgepjjpcokbpjaaDoor
open Go.RowKit

set_option maxRecDepth 100000 in
theorem refSizeP_any (w : World) (s : Str) (h0 : 0 < s.size) (hs : s.size ≤ 9223372036854775807) :
    Calls Tryd.prog 60 #[.string s] w fun e w' => e = .returned (.int .i64 (Utf8.decode s 0).2) ∧ Below w.heap.size w w' := by
  obtain ⟨d1, d2, -⟩ := dec_fact s 0 h0
  have HD := Lib.hid (And.intro d1 d2)
  obtain ⟨n, hn⟩ : ∃ n, (Utf8.decode s 0).2 = n := ⟨_, rfl⟩
  rw [hn] at HD ⊢
  have HN := Lib.hid hn
  clear d1 d2 hn
  go_enter Tryd.func60, Tryd.ntmps60
  go_upto_region 1 with fail
  have hb1 : Below w.heap.size w (w.iter s 0) := (Below.refl _ w).alloc (Nat.le_refl _) _
  have hit1 := World.iter_heap w s 0
  obtain ⟨bi, hbi⟩ : ∃ bi, w.heap.size = bi := ⟨_, rfl⟩
  rw [hbi] at hb1 hit1
  go_wp2_with fail
  try rw [hbi]
  generalize w.iter s 0 = w0 at hb1 hit1 ⊢
  have HS1 := Lib.hid (And.intro hb1 hit1)
  have HBI := Lib.hid hbi
  clear hb1 hit1 hbi
  go_loopw [] (fun wz => ∃ pos, (pos = 0 ∨ pos = n) ∧ wz.heap[bi]? = some (.stringIter s pos) ∧ Below bi w wz) (fun wz => s.size - wz.iterPos bi)
  case atStart => exact ⟨0, .inl rfl, HS1.out.2, HS1.out.1⟩
  case round =>
    clear HS1
    obtain ⟨pos, hpos, hit, hbl⟩ := hrel
    have HIT := Lib.hid hit
    by_cases hp : pos < s.size
    · have hnx : ∀ ty, (Instr.next (.pointer (some ⟨bi, 0, none⟩)) true ty).run Tryd.prog wr = _ := fun ty => Lib.run_next_any_at wr bi s pos ty hit hp
      have HB := Lib.hid (Lib.below_iterAt hbl (Nat.le_refl _) s (pos + (Utf8.decode s pos).2))
      have hit2 := Lib.iterAt_heap wr bi s pos (pos + (Utf8.decode s pos).2) hit
      have HIT2 := Lib.hid hit2
      rcases hpos with rfl | rfl
      · have HE := HN.out
        obtain ⟨d, hd⟩ : ∃ d, Utf8.decode s 0 = d := ⟨_, rfl⟩
        rw [hd] at hnx HB HIT2 HE
        have HE2 := Lib.hid HE
        clear hit2 HE hd hit hbl
        go_wp2_with fail
        go_roundw
        case rel =>
          have h2 := HIT2.out
          have h3 := HB.out
          rw [Nat.zero_add] at h2 h3
          exact ⟨d.2, .inr HE2.out, h2, h3⟩
        case measure =>
          have h2 := HIT2.out
          rw [Nat.zero_add] at h2
          simp only [World.iterPos, h2, HIT.out]
          have := HD.out
          have := HE2.out
          omega
      · have hpd : decide (0 < pos) = true := by have := HD.out; simp; omega
        have HB2 := Lib.hid HB.out
        clear hit2 hit hbl HIT HIT2
        go_wp2_with fail
        go_ret
        refine ⟨rfl, ?_⟩
        rw [HBI.out]
        exact HB2.out
    · have hnx : ∀ ty, (Instr.next (.pointer (some ⟨bi, 0, none⟩)) true ty).run Tryd.prog wr = _ := fun ty => Lib.run_next_end_at wr bi s pos ty hit hp
      have hpn : pos = n := by have := HD.out; omega
      subst hpn
      have hsn : s.size = pos := by have := HD.out; omega
      have HB := Lib.hid hbl
      have HSN := Lib.hid hsn
      clear hit hbl hsn hpos
      go_wp2_with fail
      go_ret
      rw [HBI.out]
      exact ⟨by show Ending.returned (Value.int .i64 (s.size : Int)) = _; rw [HSN.out], HB.out⟩
set_option maxRecDepth 100000 in
theorem refIs_any (w : World) (s : Str) (hs : s.size ≤ 9223372036854775807) : Calls Tryd.prog 30 #[.string s] w fun e w' => e = .returned (.bool (isOpt s)) ∧ w = w' := by
  go_enter Tryd.func30, Tryd.ntmps30
  by_cases h : 1 < s.size
  · have hd : decide (1 < s.size) = true := by simpa using h
    have he := Lib.hid (get_first s (by omega))
    go_wp2_with fail
    go_ret
    refine ⟨?_, rfl⟩
    show Ending.returned (Value.bool ((((s[0]'(by omega)).toNat : Int) == 45))) = _
    rw [he.out]
    unfold isOpt
    simp [h]
  · have hd : decide (1 < s.size) = false := by simpa using h
    go_wp2_with fail
    go_ret
    refine ⟨?_, rfl⟩
    unfold isOpt
    simp [h]
/-- A struct in a box, and a slot. -/
theorem ret_box2 {P : Program} {fn : Func} {p q : Tmp} {ty : TypeId} (h : fn.results = #[.cell p ty, .tmp q]) {R : Ending → World → Prop} {a : Act} {w : World} {g : Nat} {t : TypeId} {cs : Array Value} {d : TypeDesc}
    (hp : a.tmps.getD p undef = .pointer (some ⟨g, 0, none⟩)) (hg : w.heap[g]? = some (.cells cs t (0, 0)))
    (hu : P.underlying ty = some d) (hd : (match d with | .struct _ | .array _ _ => true | _ => false) = true) (hi : (P.info? ty).map (·.size) = some cs.size) (hdef : a.defers = [])
    (hR : R (.returned (.tuple #[.agg cs, a.tmps.getD q undef])) w) : bodyPost P fn R .ret a w := by
  have hp' : a.tmps[p]?.getD undef = .pointer (some ⟨g, 0, none⟩) := by simpa using hp
  refine bodyPost_ret (v := .tuple #[.agg cs, a.tmps.getD q undef]) ?_ hdef hR
  simp [results, h, hp', asAddr, run_loadVar_row w g t ty cs (0, 0) d hg hu hd hi]
/-- A struct in a box, and three slots. -/
theorem ret_box4 {P : Program} {fn : Func} {p q r s : Tmp} {ty : TypeId} (h : fn.results = #[.cell p ty, .tmp q, .tmp r, .tmp s]) {R : Ending → World → Prop} {a : Act} {w : World} {g : Nat} {t : TypeId} {cs : Array Value} {d : TypeDesc}
    (hp : a.tmps.getD p undef = .pointer (some ⟨g, 0, none⟩)) (hg : w.heap[g]? = some (.cells cs t (0, 0)))
    (hu : P.underlying ty = some d) (hd : (match d with | .struct _ | .array _ _ => true | _ => false) = true) (hi : (P.info? ty).map (·.size) = some cs.size) (hdef : a.defers = [])
    (hR : R (.returned (.tuple #[.agg cs, a.tmps.getD q undef, a.tmps.getD r undef, a.tmps.getD s undef])) w) : bodyPost P fn R .ret a w := by
  have hp' : a.tmps[p]?.getD undef = .pointer (some ⟨g, 0, none⟩) := by simpa using hp
  refine bodyPost_ret (v := .tuple #[.agg cs, a.tmps.getD q undef, a.tmps.getD r undef, a.tmps.getD s undef]) ?_ hdef hR
  simp [results, h, hp', asAddr, run_loadVar_row w g t ty cs (0, 0) d hg hu hd hi]
/-- Two boxes: what comes in, and what goes out. -/
structure BX (w wr : World) (B : Nat) (o : Opt) (pv fv : Value) : Prop where
  box : wr.heap[B]? = some (.cells (fullO o pv fv) TOpt (0, 0))
  res : wr.heap[B + 1]? = some (.cells zeroO TOpt (0, 0))
  bel : Below B w wr
theorem BX.set {w wr : World} {B : Nat} {o : Opt} {pv fv : Value} (h : BX w wr B o pv fv) (j : Nat) (v : Value) (o' : Opt) (hc : (fullO o pv fv).setIfInBounds j v = fullO o' pv fv) : BX w (wr.setCell ⟨B, j, none⟩ v) B o' pv fv := by
  refine ⟨?_, ?_, h.bel.setCell (Nat.le_refl _) _⟩
  · rw [heap_setCell_same wr B j _ TOpt v h.box, hc]
  · rw [heap_setCell_other wr ⟨B, j, none⟩ (B + 1) v (by simp)]; exact h.res
theorem BX.cell {w wr : World} {B : Nat} {o : Opt} {pv fv : Value} (h : BX w wr B o pv fv) (j : Nat) : wr.cell? ⟨B, j, none⟩ = (fullO o pv fv)[j]? := cell_of_row wr B j _ _ (0, 0) h.box
theorem BX.frozen {w wr : World} {B : Nat} {o : Opt} {pv fv : Value} (h : BX w wr B o pv fv) (j : Nat) : wr.frozen? ⟨B, j, none⟩ = false := frozen_of_row wr B j _ _ h.box
theorem BX.below {w wr w' : World} {B : Nat} {o : Opt} {pv fv : Value} (h : BX w wr B o pv fv) (hb : Below wr.heap.size wr w') : BX w w' B o pv fv :=
  ⟨(hb.block _ (Array.getElem?_eq_some_iff.1 h.box).1).trans h.box, (hb.block _ (Array.getElem?_eq_some_iff.1 h.res).1).trans h.res, h.bel.trans (hb.mono (by have := (Array.getElem?_eq_some_iff.1 h.box).1; omega))⟩
theorem BX.start (w : World) (o : Opt) (pv fv : Value) : BX w ((w.alloc (.cells (fullO o pv fv) TOpt)).alloc (.cells zeroO TOpt)) w.heap.size o pv fv := by
  refine ⟨?_, ?_, ((Below.refl _ w).alloc (Nat.le_refl _) _).alloc (by simp) _⟩
  · rw [Below.heap_alloc _ _ _ (by simp)]; exact heap_alloc_new w _
  · have := heap_alloc_new (w.alloc (.cells (fullO o pv fv) TOpt)) (.cells zeroO TOpt)
    rwa [World.size_alloc] at this
set_option maxHeartbeats 2000000 in
set_option maxRecDepth 100000 in
theorem refLetter_any (w : World) (o : Opt) (ap : Option Addr) (np cp : Nat) (af : Option Addr) (nf cf : Nat) (l : Str) :
    Calls Tryd.prog 61 #[.agg (fullO o (.slice ap np cp) (.slice af nf cf)), .string l] w fun e w' => e = .returned (.tuple #[.agg (fullO (ltrR o l).1 (.slice ap np cp) (.slice af nf cf)), .bool (ltrR o l).2]) ∧ Below w.heap.size w w' := by
  have HB0 := Lib.hid (BX.start w o (.slice ap np cp) (.slice af nf cf))
  have key : ∀ c : UInt8, (ByteArray.toList l == [c]) = decide (l = str [c]) := fun c => by
    have := str_eqd l (str [c])
    rwa [show ByteArray.toList (str [c]) = [c] by rw [Lib.toList_data]; rfl] at this
  have k1 := key 110
  have k2 := key 69
  have k3 := key 115
  have k4 := key 105
  clear key
  go_enter Tryd.func61, Tryd.ntmps61
  have goalR : ∀ (wx : World) (o' : Opt) (b : Bool), ltrR o l = (o', b) → BX w wx w.heap.size o' (.slice ap np cp) (.slice af nf cf) → (fun e w' => e = Ending.returned (.tuple #[.agg (fullO (ltrR o l).1 (.slice ap np cp) (.slice af nf cf)), .bool (ltrR o l).2]) ∧ Below w.heap.size w w') (.returned (.tuple #[.agg (fullO o' (.slice ap np cp) (.slice af nf cf)), .bool b])) (wx.setRow (w.heap.size + 1) (fullO o' (.slice ap np cp) (.slice af nf cf))) := fun wx o' b h hx => by
    rw [h]
    exact ⟨rfl, below_setRow hx.bel (by omega) _⟩
  have goalH : ∀ (wx : World) (o' : Opt), BX w wx w.heap.size o' (.slice ap np cp) (.slice af nf cf) → (wx.setRow (w.heap.size + 1) (fullO o' (.slice ap np cp) (.slice af nf cf))).heap[w.heap.size + 1]? = some (.cells (fullO o' (.slice ap np cp) (.slice af nf cf)) TOpt (0, 0)) := fun wx o' hx => setRow_heap _ _ _ _ _ _ hx.res
  have GR := Lib.hid goalR
  have GH := Lib.hid goalH
  clear goalR goalH
  go_upto_region 1 with fail
  generalize (w.alloc (.cells #[.bool o.q, .bool o.e, .bool o.a, .bool o.i, .slice ap np cp, .slice af nf cf] 28)).alloc (.cells #[.bool false, .bool false, .bool false, .bool false, .slice none 0 0, .slice none 0 0] 28) = w1 at HB0 ⊢
  obtain ⟨B, hBB⟩ : ∃ B, w.heap.size = B := ⟨_, rfl⟩
  rw [hBB] at HB0 GR GH ⊢
  have KK := Lib.hid (And.intro k1 (And.intro k2 (And.intro k3 k4)))
  clear k1 k2 k3 k4
  by_cases h1 : l = str [110]
  · have q1 : (ByteArray.toList l == [110]) = true := by rw [KK.out.1]; exact decide_eq_true h1
    have HR : Hid (ltrR o l = ({ o with q := true }, true)) := Lib.hid (by unfold ltrR; rw [if_pos h1])
    have c0 : w1.cell? ⟨B, 0, none⟩ = some (.bool o.q) := HB0.out.cell 0
    have f0 : w1.frozen? ⟨B, 0, none⟩ = false := HB0.out.frozen 0
    have HB1 := Lib.hid (HB0.out.set 0 (.bool true) { o with q := true } rfl)
    clear h1
    go_wp2_with (first | (refine wpList_load_row rfl TOpt (.tmp 2) rfl B rfl TOpt _ (0, 0) _ HB1.out.box Tryd.underlying28 rfl infoO ?_) | (refine wpList_store_row rfl TOpt (.tmp 4) (.tmp 21) rfl rfl (B + 1) TOpt _ _ rfl rfl HB1.out.res rfl infoO (by simp [Value.oneCell']) ?_))
    refine ret_box2 (p := 4) (q := 5) rfl rfl (GH.out _ _ HB1.out) Tryd.underlying28 rfl infoO rfl ?_
    exact GR.out _ _ true HR.out HB1.out
  have q1 : (ByteArray.toList l == [110]) = false := by rw [KK.out.1]; exact decide_eq_false h1
  by_cases h2 : l = str [69]
  · have q2 : (ByteArray.toList l == [69]) = true := by rw [KK.out.2.1]; exact decide_eq_true h2
    have HR : Hid (ltrR o l = ({ o with e := true }, true)) := Lib.hid (by unfold ltrR; rw [if_neg h1, if_pos h2])
    have c1 : w1.cell? ⟨B, 1, none⟩ = some (.bool o.e) := HB0.out.cell 1
    have f1 : w1.frozen? ⟨B, 1, none⟩ = false := HB0.out.frozen 1
    have HB1 := Lib.hid (HB0.out.set 1 (.bool true) { o with e := true } rfl)
    clear h2
    go_wp2_with (first | (refine wpList_load_row rfl TOpt (.tmp 2) rfl B rfl TOpt _ (0, 0) _ HB1.out.box Tryd.underlying28 rfl infoO ?_) | (refine wpList_store_row rfl TOpt (.tmp 4) (.tmp 21) rfl rfl (B + 1) TOpt _ _ rfl rfl HB1.out.res rfl infoO (by simp [Value.oneCell']) ?_))
    refine ret_box2 (p := 4) (q := 5) rfl rfl (GH.out _ _ HB1.out) Tryd.underlying28 rfl infoO rfl ?_
    exact GR.out _ _ true HR.out HB1.out
  have q2 : (ByteArray.toList l == [69]) = false := by rw [KK.out.2.1]; exact decide_eq_false h2
  by_cases h3 : l = str [115]
  · have q3 : (ByteArray.toList l == [115]) = true := by rw [KK.out.2.2.1]; exact decide_eq_true h3
    have HR : Hid (ltrR o l = ({ o with a := true }, true)) := Lib.hid (by unfold ltrR; rw [if_neg h1, if_neg h2, if_pos h3])
    have c2 : w1.cell? ⟨B, 2, none⟩ = some (.bool o.a) := HB0.out.cell 2
    have f2 : w1.frozen? ⟨B, 2, none⟩ = false := HB0.out.frozen 2
    have HB1 := Lib.hid (HB0.out.set 2 (.bool true) { o with a := true } rfl)
    clear h3
    go_wp2_with (first | (refine wpList_load_row rfl TOpt (.tmp 2) rfl B rfl TOpt _ (0, 0) _ HB1.out.box Tryd.underlying28 rfl infoO ?_) | (refine wpList_store_row rfl TOpt (.tmp 4) (.tmp 21) rfl rfl (B + 1) TOpt _ _ rfl rfl HB1.out.res rfl infoO (by simp [Value.oneCell']) ?_))
    refine ret_box2 (p := 4) (q := 5) rfl rfl (GH.out _ _ HB1.out) Tryd.underlying28 rfl infoO rfl ?_
    exact GR.out _ _ true HR.out HB1.out
  have q3 : (ByteArray.toList l == [115]) = false := by rw [KK.out.2.2.1]; exact decide_eq_false h3
  by_cases h4 : l = str [105]
  · have q4 : (ByteArray.toList l == [105]) = true := by rw [KK.out.2.2.2]; exact decide_eq_true h4
    have HR : Hid (ltrR o l = ({ o with i := true, a := true }, true)) := Lib.hid (by unfold ltrR; rw [if_neg h1, if_neg h2, if_neg h3, if_pos h4])
    have c2 : w1.cell? ⟨B, 2, none⟩ = some (.bool o.a) := HB0.out.cell 2
    have f2 : w1.frozen? ⟨B, 2, none⟩ = false := HB0.out.frozen 2
    have HBa := Lib.hid (HB0.out.set 2 (.bool true) { o with a := true } rfl)
    have c3 : (w1.setCell ⟨B, 2, none⟩ (.bool true)).cell? ⟨B, 3, none⟩ = some (.bool o.i) := HBa.out.cell 3
    have f3 : (w1.setCell ⟨B, 2, none⟩ (.bool true)).frozen? ⟨B, 3, none⟩ = false := HBa.out.frozen 3
    have HB1 := Lib.hid (HBa.out.set 3 (.bool true) { o with i := true, a := true } rfl)
    clear h4
    go_wp2_with (first | (refine wpList_load_row rfl TOpt (.tmp 2) rfl B rfl TOpt _ (0, 0) _ HB1.out.box Tryd.underlying28 rfl infoO ?_) | (refine wpList_store_row rfl TOpt (.tmp 4) (.tmp 21) rfl rfl (B + 1) TOpt _ _ rfl rfl HB1.out.res rfl infoO (by simp [Value.oneCell']) ?_))
    refine ret_box2 (p := 4) (q := 5) rfl rfl (GH.out _ _ HB1.out) Tryd.underlying28 rfl infoO rfl ?_
    exact GR.out _ _ true HR.out HB1.out
  have q4 : (ByteArray.toList l == [105]) = false := by rw [KK.out.2.2.2]; exact decide_eq_false h4
  have HR : Hid (ltrR o l = (o, false)) := Lib.hid (by unfold ltrR; rw [if_neg h1, if_neg h2, if_neg h3, if_neg h4])
  clear h1 h2 h3 h4
  go_wp2_with (first | (refine wpList_load_row rfl TOpt (.tmp 2) rfl B rfl TOpt _ (0, 0) _ HB0.out.box Tryd.underlying28 rfl infoO ?_) | (refine wpList_store_row rfl TOpt (.tmp 4) (.tmp 7) rfl rfl (B + 1) TOpt _ _ rfl rfl HB0.out.res rfl infoO (by simp [Value.oneCell']) ?_))
  refine ret_box2 (p := 4) (q := 5) rfl rfl (GH.out _ _ HB0.out) Tryd.underlying28 rfl infoO rfl ?_
  exact GR.out _ _ false HR.out HB0.out
end Go.Proofs.YtgepjjpcokbpjaaDoor
