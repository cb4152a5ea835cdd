/-
  opts.Parse: the options of a command line.
-/
import Derived.Test.YtgepjjpcokbpjaaDoorPrintO
import Derived.Test.YtgepjjpcokbpjaaDoorOptB
import Derived.Lib.OthersKept
import Derived.WalkMore
namespace Go.Proofs.YtgepjjpcokbpjaaDoor
open Go.RowKit

abbrev TOpt : TypeId := 28
/-- What Parse holds. -/
structure SO (w wr : World) (B : Nat) (o : Opt) (pv : Value) : Prop where
  hB : w.heap.size = B
  box : wr.heap[B + 1]? = some (.cells #[.bool o.q, .bool o.e, .bool o.a, .bool o.i, pv, .slice none 0 0] TOpt (0, 0))
  res : wr.heap[B]? = some (.cells #[.bool false, .bool false, .bool false, .bool false, .slice none 0 0, .slice none 0 0] TOpt (0, 0))
  own : OwnPt wr (B + 2) pv o.parts
  bel : Below B w wr
  sz : B + 2 ≤ wr.heap.size
  nf : o.files = []
section
variable {w wr w' : World} {B : Nat} {o : Opt} {pv : Value}
theorem SO.below (h : SO w wr B o pv) (hb : Below wr.heap.size wr w') : SO w w' B o pv :=
  { h with box := (hb.block _ (Array.getElem?_eq_some_iff.1 h.box).1).trans h.box, res := (hb.block _ (Array.getElem?_eq_some_iff.1 h.res).1).trans h.res, own := own_belowT h.own hb, bel := h.bel.trans (hb.mono (by have := h.sz; omega)), sz := Nat.le_trans h.sz hb.size }
theorem SO.cell (h : SO w wr B o pv) (j : Nat) : wr.cell? ⟨B + 1, j, none⟩ = (#[.bool o.q, .bool o.e, .bool o.a, .bool o.i, pv, .slice none 0 0] : Array Value)[j]? := cell_of_row wr (B + 1) j _ _ (0, 0) h.box
theorem SO.frozen (h : SO w wr B o pv) (j : Nat) : wr.frozen? ⟨B + 1, j, none⟩ = false := frozen_of_row wr (B + 1) j _ _ h.box
theorem SO.set (h : SO w wr B o pv) (j : Nat) (v : Value) (o' : Opt) (hc : (#[.bool o.q, .bool o.e, .bool o.a, .bool o.i, pv, .slice none 0 0] : Array Value).setIfInBounds j v = #[.bool o'.q, .bool o'.e, .bool o'.a, .bool o'.i, pv, .slice none 0 0]) (hp : o'.parts = o.parts) (hf : o'.files = o.files) : SO w (wr.setCell ⟨B + 1, j, none⟩ v) B o' pv := by
  refine ⟨h.hB, ?_, ?_, ?_, h.bel.setCell (by simp) _, by simpa [World.setCell] using h.sz, by rw [hf]; exact h.nf⟩
  · rw [heap_setCell_same wr (B + 1) j _ TOpt v h.box, hc]
  · rw [heap_setCell_other wr ⟨B + 1, j, none⟩ B v (by simp)]; exact h.res
  · rw [hp]; exact ownsRow_setCell_below h.own (a := ⟨B + 1, j, none⟩) (by simp) _
theorem SO.push (h : SO w wr B o pv) {pv' : Value} {f : Bool} {t : Str} (ho : OwnPt w' (B + 2) pv' (o.parts ++ [(f, t)])) (hp : AppPost wr w' (B + 2) pv pv') : SO w (w'.setCell ⟨B + 1, 4, none⟩ pv') B (push o f t) pv' ∧ w'.cell? ⟨B + 1, 4, none⟩ = some pv ∧ w'.frozen? ⟨B + 1, 4, none⟩ = false := by
  have hfar : ∀ k, k < B + 2 → pv.ownBlock ≠ some k := fun k hk e => by have := (World.ownsRow.lt h.own k e).1; omega
  have hbx : w'.heap[B + 1]? = some (.cells #[.bool o.q, .bool o.e, .bool o.a, .bool o.i, pv, .slice none 0 0] TOpt (0, 0)) := (hp.block _ (Array.getElem?_eq_some_iff.1 h.box).1 (hfar _ (by omega))).trans h.box
  refine ⟨⟨h.hB, ?_, ?_, ?_, (hp.bel _ _ h.bel (by omega)).setCell (by simp) _, by have := hp.size; have := h.sz; simp [World.setCell]; omega, h.nf⟩, by rw [cell_of_row w' (B + 1) 4 _ _ (0, 0) hbx]; rfl, frozen_of_row w' (B + 1) 4 _ _ hbx⟩
  · rw [heap_setCell_same w' (B + 1) 4 _ TOpt pv' hbx]; rfl
  · rw [heap_setCell_other w' ⟨B + 1, 4, none⟩ B pv' (by simp), hp.block _ (Array.getElem?_eq_some_iff.1 h.res).1 (hfar _ (by omega))]; exact h.res
  · exact ownsRow_setCell_below ho (a := ⟨B + 1, 4, none⟩) (by simp) _
theorem SO.iter (h : SO w wr B o pv) {k : Nat} {s : Str} {pos : Nat} (hk : wr.heap[k]? = some (.stringIter s pos)) (hkB : B + 2 ≤ k) (pos' : Nat) : SO w (wr.iterAt k s pos') B o pv := by
  refine { h with box := (Lib.iterAt_other wr k (B + 1) s pos' (by omega)).trans h.box, res := (Lib.iterAt_other wr k B s pos' (by omega)).trans h.res, own := ?_, bel := Lib.below_iterAt h.bel (by omega) s pos', sz := by rw [Lib.iterAt_size]; exact h.sz }
  refine ⟨h.own.1, h.own.2.imp_right fun ⟨g, cap, cur, e, hb, hg, r⟩ => ⟨g, cap, cur, e, hb, (Lib.iterAt_other wr k g s pos' (fun e2 => ?_)).trans hg, r⟩⟩
  subst e2
  rw [hk] at hg
  cases hg
end
/-- What Parse answers. -/
def ParseOPost (w : World) (r : PRes) (e : Ending) (w' : World) : Prop :=
  ∃ ap cp af cf, e = .returned (.tuple #[.agg #[.bool r.1.q, .bool r.1.e, .bool r.1.a, .bool r.1.i, .slice ap r.1.parts.length cp, .slice af r.1.files.length cf], .int .i64 r.2.1, .string r.2.2]) ∧
    OwnPt w' w.heap.size (.slice ap r.1.parts.length cp) r.1.parts ∧ OwnT w' w.heap.size (.slice af r.1.files.length cf) r.1.files ∧ Below w.heap.size w w'
/-- Three results: a struct in a box, and two slots. -/
theorem ret_box3 {P : Program} {fn : Func} {p q r : Tmp} {ty : TypeId} (h : fn.results = #[.cell p ty, .tmp q, .tmp r]) {R : Ending → World → Prop} {a : Act} {w : World} {g : Nat} {t : TypeId} {cs : Array Value} {d : TypeDesc}
    (hp : a.tmps.getD p undef = .pointer (some ⟨g, 0, none⟩)) (hg : w.heap[g]? = some (.cells cs t (0, 0)))
    (hu : P.underlying ty = some d) (hd : (match d with | .struct _ | .array _ _ => true | _ => false) = true) (hi : (P.info? ty).map (·.size) = some cs.size) (hdef : a.defers = [])
    (hR : R (.returned (.tuple #[.agg cs, a.tmps.getD q undef, a.tmps.getD r undef])) w) : bodyPost P fn R .ret a w := by
  have hp' : a.tmps[p]?.getD undef = .pointer (some ⟨g, 0, none⟩) := by simpa using hp
  refine bodyPost_ret (v := .tuple #[.agg cs, a.tmps.getD q undef, a.tmps.getD r undef]) ?_ hdef hR
  simp [results, h, hp', asAddr, run_loadVar_row w g t ty cs (0, 0) d hg hu hd hi]

theorem TS.drop0 {w : World} {a : Option Addr} {n c : Nat} {l : List Str} (_ : TS w (.slice a n c) l) : TS w (.slice a 0 0) [] := ⟨a, 0, rfl, by simp, by simp, fun _ => rfl, .inl rfl⟩
theorem TS.drop1 {w : World} {a : Option Addr} {n c : Nat} {l : List Str} (h : TS w (.slice a n c) l) (m : Nat) (hm : m ≤ n) (_ : ¬ c = m) : TS w (.slice (a.map (·.add m)) (n - m) (c - m)) (l.drop m) := by
  obtain ⟨hl, h1, h2, h3⟩ := h.len
  refine ⟨_, c - m, by rw [List.length_drop, hl], by rw [List.length_drop]; omega, by rw [List.length_drop]; omega, ?_, ?_⟩
  · intro e
    cases a with
    | none => have := h3 rfl; omega
    | some x => simp at e
  · by_cases hmn : m = n
    · exact .inl (List.drop_eq_nil_of_le (by omega))
    · obtain ⟨b, o, rfl, hr⟩ := h.read m (by omega)
      refine .inr ⟨b, o + m, by simp [Addr.add], fun i hi => ?_⟩
      rw [List.length_drop] at hi
      rw [show o + m + i = o + (m + i) by omega, hr (m + i) (by omega), List.getElem?_drop]
theorem TS.drop1s {w : World} {b o n c : Nat} {l : List Str} (h : TS w (.slice (some ⟨b, o, none⟩) n c) l) (m : Nat) (hm : m ≤ n) (hc : ¬ c = m) : TS w (.slice (some ⟨b, o + m, none⟩) (n - m) (c - m)) (l.drop m) := by
  have := h.drop1 m hm hc
  have e : (⟨b, o, none⟩ : Addr).add m = ⟨b, o + m, none⟩ := by unfold Addr.add; by_cases hm0 : m = 0 <;> simp [hm0]
  rw [Option.map_some, e] at this
  exact this
theorem dash_list : ByteArray.toList (str [45, 45]) = [45, 45] := by rw [Lib.toList_data]; rfl
theorem let_end (s : Str) (fuel pos : Nat) (o : Opt) (h : ¬ pos < s.size) : letF s fuel pos o = .done o := by
  cases fuel with
  | zero => rw [letF]
  | succ f => rw [letF, if_neg h]
theorem let_is (w : Str) (pos : Nat) (h1 : 1 < w.size) (h : pos < (tailW w).size) (c : UInt8) (hc : c.toNat < 128) (hr : (Utf8.decode (tailW w) pos).1 = c.toNat) (hlen : (Lib.runeLen (c.toNat : Int)).toNat = 1) : letOf (w.extract (pos + 1) w.size) (c.toNat : Int) = str [c] := by
  have hts := tail_size w h1
  have hb : (tailW w).get! pos = (tailW w)[pos]'h := get_at _ pos h
  have hlow : ((tailW w)[pos]'h).toNat < 128 := by
    by_cases hl : ((tailW w)[pos]'h).toNat < 128
    · exact hl
    · have := (decode_high (tailW w) pos h (by omega)).1
      omega
  have hd := decode_ascii (tailW w) pos h hlow
  rw [hd] at hr
  have hcc : (tailW w)[pos]'h = c := UInt8.toNat_inj.1 hr
  have hg : (w.extract (pos + 1) w.size).get! 0 = c := by rw [get_drop w (pos + 1) (by omega), ← get_ext w pos (by omega), hb, hcc]
  have hs : 0 < (w.extract (pos + 1) w.size).size := by rw [ByteArray.size_extract]; omega
  generalize w.extract (pos + 1) w.size = t at *
  unfold letOf
  rw [if_neg (by omega), hlen]
  have hg2 : t[0]'hs = c := by rw [← get_at t 0 hs]; exact hg
  apply ByteArray.ext_getElem
  · rw [ByteArray.size_extract]; show _ = 1; omega
  · intro i hi hi2
    have hi0 : i = 0 := by
      have : (str [c]).size = 1 := rfl
      omega
    subst hi0
    rw [ByteArray.getElem_extract]
    exact hg2
theorem nil_list : ByteArray.toList ByteArray.empty = [] := by rw [Lib.toList_data]; rfl
theorem nil_eqd (x : Str) : (ByteArray.toList x == []) = decide (x = ByteArray.empty) := by rw [← nil_list]; exact str_eqd x _
theorem own_mono {w : World} {base base' size n : Nat} {e : TypeId} {v : Value} {xs : List Value} (h : w.ownsRow base e size v n xs) (hb : base' ≤ base) : w.ownsRow base' e size v n xs :=
  ⟨h.1, h.2.imp_right fun ⟨g, cap, cur, e1, h1, r⟩ => ⟨g, cap, cur, e1, Nat.le_trans hb h1, r⟩⟩
theorem own_setRow {w : World} {base size n : Nat} {e : TypeId} {v : Value} {xs : List Value} (h : w.ownsRow base e size v n xs) (g : Nat) (hg : g < base) (cs : Array Value) : (w.setRow g cs).ownsRow base e size v n xs :=
  ⟨h.1, h.2.imp_right fun ⟨g', cap, cur, e1, h1, hh, r⟩ => ⟨g', cap, cur, e1, h1, (setRow_other w g g' cs (by omega)).trans hh, r⟩⟩
abbrev zeroO : Array Value := #[.bool false, .bool false, .bool false, .bool false, .slice none 0 0, .slice none 0 0]
abbrev fullO (o : Opt) (pv fv : Value) : Array Value := #[.bool o.q, .bool o.e, .bool o.a, .bool o.i, pv, fv]
theorem infoO : (Tryd.prog.info? TOpt).map (·.size) = some 6 := by kernel_rfl
theorem SO.zero {w wr : World} {B : Nat} {o : Opt} {pv : Value} (h : SO w wr B o pv) (e : Int) (s : Str) : ParseOPost w (opt0, e, s) (.returned (.tuple #[.agg zeroO, .int .i64 e, .string s])) (wr.setRow B zeroO) := by
  have hB := h.hB
  refine ⟨none, 0, none, 0, rfl, OwnPt.nil _ _, OwnT.nil _ _, ?_⟩
  rw [hB]
  exact below_setRow h.bel (Nat.le_refl _) _
theorem SO.zero_res {w wr : World} {B : Nat} {o : Opt} {pv : Value} (h : SO w wr B o pv) : (wr.setRow B zeroO).heap[B]? = some (.cells zeroO TOpt (0, 0)) := setRow_heap wr B _ _ TOpt _ h.res
/-- The end: both lists lie in the box. -/
structure SD (w wr : World) (B : Nat) (o : Opt) (pv fv : Value) : Prop where
  hB : w.heap.size = B
  box : wr.heap[B + 1]? = some (.cells (fullO o pv fv) TOpt (0, 0))
  res : wr.heap[B]? = some (.cells zeroO TOpt (0, 0))
  own : OwnPt wr (B + 2) pv o.parts
  ownf : OwnT wr (B + 2) fv o.files
  bel : Below B w wr
theorem SD.done {w wr : World} {B : Nat} {o : Opt} {pv fv : Value} (h : SD w wr B o pv fv) : ParseOPost w (o, 0, ByteArray.empty) (.returned (.tuple #[.agg (fullO o pv fv), .int .i64 0, .string ByteArray.empty])) (wr.setRow B (fullO o pv fv)) := by
  obtain ⟨ap, cp, rfl⟩ := own_shape h.own
  obtain ⟨af, cf, rfl⟩ := own_shape h.ownf
  have hB := h.hB
  refine ⟨ap, cp, af, cf, rfl, ?_, ?_, ?_⟩
  · rw [hB]; exact own_mono (own_setRow h.own B (by omega) _) (by omega)
  · rw [hB]; exact own_mono (own_setRow h.ownf B (by omega) _) (by omega)
  · rw [hB]; exact below_setRow h.bel (Nat.le_refl _) _
theorem SD.done_res {w wr : World} {B : Nat} {o : Opt} {pv fv : Value} (h : SD w wr B o pv fv) : (wr.setRow B (fullO o pv fv)).heap[B]? = some (.cells (fullO o pv fv) TOpt (0, 0)) := setRow_heap wr B _ _ TOpt _ h.res
/-- The files come in. -/
theorem SO.file {w wr w' : World} {B : Nat} {o : Opt} {pv fv : Value} {fs : List Str} (h : SO w wr B o pv) (ho : OwnT w' wr.heap.size fv fs) (hb : Below wr.heap.size wr w') : SD w (w'.setCell ⟨B + 1, 5, none⟩ fv) B { o with files := fs } pv fv ∧ w'.cell? ⟨B + 1, 5, none⟩ = some (.slice none 0 0) ∧ w'.frozen? ⟨B + 1, 5, none⟩ = false := by
  have h2 := h.below hb
  refine ⟨⟨h.hB, ?_, ?_, ?_, ?_, h2.bel.setCell (by simp) _⟩, by rw [h2.cell]; rfl, h2.frozen 5⟩
  · rw [heap_setCell_same w' (B + 1) 5 _ TOpt fv h2.box]; rfl
  · rw [heap_setCell_other w' ⟨B + 1, 5, none⟩ B fv (by simp)]; exact h2.res
  · exact ownsRow_setCell_below h2.own (a := ⟨B + 1, 5, none⟩) (by simp) _
  · exact ownsRow_setCell_below (own_mono ho h.sz) (a := ⟨B + 1, 5, none⟩) (by simp) _
theorem SO.one {w wr : World} {B : Nat} {o : Opt} {pv : Value} (h : SO w wr B o pv) (x : Str) : SO w ((wr.alloc (.cells #[.bool false, .string x] 66)).setCell ⟨B + 1, 4, none⟩ (.slice (some ⟨wr.heap.size, 0, none⟩) 1 1)) B { o with parts := [(false, x)] } (.slice (some ⟨wr.heap.size, 0, none⟩) 1 1) ∧
    (wr.alloc (.cells #[.bool false, .string x] 66)).cell? ⟨B + 1, 4, none⟩ = some pv ∧ (wr.alloc (.cells #[.bool false, .string x] 66)).frozen? ⟨B + 1, 4, none⟩ = false := by
  have h2 := h.below ((Below.refl wr.heap.size wr).alloc (Nat.le_refl _) (.cells #[.bool false, .string x] 66))
  refine ⟨⟨h.hB, ?_, ?_, ?_, h2.bel.setCell (by simp) _, by have := h.sz; simp [World.setCell]; omega, h.nf⟩, by rw [h2.cell]; rfl, h2.frozen 4⟩
  · rw [heap_setCell_same _ (B + 1) 4 _ TOpt _ h2.box]; rfl
  · rw [heap_setCell_other _ ⟨B + 1, 4, none⟩ B _ (by simp)]; exact h2.res
  · refine ownsRow_setCell_below ?_ (a := ⟨B + 1, 4, none⟩) (by simp) _
    exact ⟨rfl, .inr ⟨wr.heap.size, 1, _, rfl, h.sz, heap_alloc_new wr _, Nat.le_refl _, by unfold maxLen; omega, rfl, rfl⟩⟩
theorem drop_at' (l : List Str) (m : Nat) (h : m < l.length) : l.drop m = l[m]?.getD ByteArray.empty :: l.drop (m + 1) := by
  rw [List.drop_eq_getElem_cons h, List.getElem?_eq_getElem h]; rfl
set_option maxHeartbeats 4000000 in
set_option maxRecDepth 100000 in
theorem parseO_any (w : World) (a : Option Addr) (n c : Nat) (l : List Str) (hb : TS w (.slice a n c) l) (hn : n ≤ 4294967296) (hsz : ∀ s ∈ l, s.size ≤ 9223372036854775807) :
    Calls Tryd.prog 9 #[.slice a n c] w (ParseOPost w (parF l opt0)) := by
  obtain ⟨hl, -, hnc, hN⟩ := hb.len
  have HL := Lib.hid hl
  have HB := Lib.hid hb
  have HSZ := Lib.hid hsz
  clear hl hb hsz
  go_enter Tryd.func9, Tryd.ntmps9
  have hS0 : SO w ((w.alloc (.cells #[.bool false, .bool false, .bool false, .bool false, .slice none 0 0, .slice none 0 0] TOpt)).alloc (.cells #[.bool false, .bool false, .bool false, .bool false, .slice none 0 0, .slice none 0 0] TOpt)) w.heap.size opt0 (.slice none 0 0) := by
    refine ⟨rfl, ?_, ?_, OwnPt.nil _ _, ((Below.refl _ w).alloc (Nat.le_refl _) _).alloc (by simp) _, by simp, rfl⟩
    · have := heap_alloc_new (w.alloc (.cells #[.bool false, .bool false, .bool false, .bool false, .slice none 0 0, .slice none 0 0] TOpt)) (.cells #[.bool false, .bool false, .bool false, .bool false, .slice none 0 0, .slice none 0 0] TOpt)
      rwa [World.size_alloc] at this
    · rw [Below.heap_alloc _ _ _ (by simp)]; exact heap_alloc_new w _
  go_wp2_with fail
  go_step3
  go_wp2_with fail
  go_step3
  obtain ⟨B, hB⟩ : ∃ B, w.heap.size = B := ⟨_, rfl⟩
  rw [hB] at hS0 ⊢
  generalize (w.alloc (.cells #[.bool false, .bool false, .bool false, .bool false, .slice none 0 0, .slice none 0 0] 28)).alloc (.cells #[.bool false, .bool false, .bool false, .bool false, .slice none 0 0, .slice none 0 0] 28) = w1 at hS0 ⊢
  have HS0 := Lib.hid hS0
  have HBB := Lib.hid hB
  clear hS0 hB
  go_wp2_with fail
  go_loopw [6] (fun x wr => ∃ (k : Nat) (o : Opt) (pv : Value), k ≤ n ∧ x = .int .i64 k ∧ SO w wr B o pv ∧ parF (l.drop k) o = parF l opt0 ∧ o.parts.length ≤ k) (fun x _ => n - (intOf x).toNat)
  case atStart => exact ⟨0, opt0, _, Nat.zero_le _, rfl, HS0.out, rfl, Nat.zero_le _⟩
  case round =>
    clear HS0
    obtain ⟨k, o, pv, hk, rfl, hS, hpar, hpl⟩ := hrel
    obtain ⟨ap, cp, hpv⟩ := own_shape hS.own
    subst hpv
    have HS := Lib.hid hS
    have HP := Lib.hid hpar
    clear hS hpar
    by_cases hkn : k = n
    · have hkd : decide (k < n) = false := by simp; omega
      go_upto_region 30 with fail
      have HF : Hid (finish (l.drop k) o = parF l opt0) := Lib.hid (by
        have := HP.out
        rw [List.drop_eq_nil_of_le (by have := HL.out; omega), par_nil] at this
        rw [List.drop_eq_nil_of_le (by have := HL.out; omega)]
        exact this)
      clear HP hkd
      have hm : k ≤ n := hk
      have HKN := Lib.hid hkn
      clear hkn hk
      have c4 : wr.cell? ⟨B + 1, 4, none⟩ = some (.slice ap o.parts.length cp) := HS.out.cell 4
      have c4f : wr.frozen? ⟨B + 1, 4, none⟩ = false := HS.out.frozen 4
      by_cases hp0 : o.parts.length = 0
      · have hpe := List.eq_nil_of_length_eq_zero hp0
        have hpd : ((o.parts.length : Int) == 0) = true := by simp [hp0]
        by_cases hkn2 : k = n
        · have hke : ((k : Int) == (n : Int)) = true := by simp [hkn2]
          have HR : Hid (parF l opt0 = (opt0, 91, ByteArray.empty)) := Lib.hid (by rw [← HF.out, List.drop_eq_nil_of_le (by have := HL.out; omega)]; exact fin_none o hpe)
          go_wp2_with (refine wpList_store_row rfl TOpt (.tmp 2) (.tmp 100) rfl rfl B TOpt _ zeroO rfl rfl HS.out.res rfl infoO (by decide) ?_)
          rw [Exit.noGoto_ret]
          rw [HR.out]
          exact ret_box3 (p := 2) (q := 3) (r := 4) rfl rfl HS.out.zero_res Tryd.underlying28 rfl infoO rfl (HS.out.zero 91 ByteArray.empty)
        · exact absurd HKN.out hkn2
      · have hpd : ((o.parts.length : Int) == 0) = false := by simp [hp0]
        have HR : Hid (parF l opt0 = ({ o with files := l.drop k }, 0, ByteArray.empty)) := Lib.hid (by rw [← HF.out]; exact fin_many _ _ (fun e => hp0 (by rw [e]; rfl)))
        clear HF
        go_upto_region 35 with fail
        have HTB := Lib.hid (HB.out.below (by rw [HBB.out]; exact HS.out.bel))
        by_cases hcm : c = k
        · have HCL := Lib.hid (clone_anyT _ _ 0 0 [] (TS.drop0 HTB.out))
          have HDR : Hid (l.drop k = []) := Lib.hid (List.drop_eq_nil_of_le (by have := HL.out; omega))
          rw [HDR.out] at HR
          clear HTB
          obtain rfl : n = k := by omega
          obtain rfl : c = n := hcm
          go_wp2_with fail
          refine HCL.out.mono ?_
          rintro e w2 ⟨af, cf, rfl, hof, hbf⟩
          obtain ⟨hSD, f1, f2⟩ := HS.out.file hof hbf
          have HSD := Lib.hid hSD
          clear hof hbf hSD
          go_wp2_with (first | (refine wpList_load_row rfl TOpt (.tmp 5) rfl (B + 1) rfl TOpt _ (0, 0) _ HSD.out.box Tryd.underlying28 rfl infoO ?_) | (refine wpList_store_row rfl TOpt (.tmp 2) (.tmp 115) rfl rfl B TOpt _ _ rfl rfl HSD.out.res rfl infoO (by simp [Value.oneCell']) ?_))
          rw [Exit.noGoto_ret, HR.out]
          exact ret_box3 (p := 2) (q := 3) (r := 4) rfl rfl HSD.out.done_res Tryd.underlying28 rfl infoO rfl HSD.out.done
        · have HCL := Lib.hid (clone_anyT _ _ _ _ (l.drop k) (TS.drop1 HTB.out k hm hcm))
          clear HTB
          go_wp2_with fail
          refine HCL.out.mono ?_
          rintro e w2 ⟨af, cf, he, hof, hbf⟩
          rw [List.length_drop, HL.out] at he hof
          subst he
          obtain ⟨hSD, f1, f2⟩ := HS.out.file hof hbf
          have HSD := Lib.hid hSD
          clear hof hbf hSD
          go_wp2_with (first | (refine wpList_load_row rfl TOpt (.tmp 5) rfl (B + 1) rfl TOpt _ (0, 0) _ HSD.out.box Tryd.underlying28 rfl infoO ?_) | (refine wpList_store_row rfl TOpt (.tmp 2) (.tmp 115) rfl rfl B TOpt _ _ rfl rfl HSD.out.res rfl infoO (by simp [Value.oneCell']) ?_))
          rw [Exit.noGoto_ret, HR.out]
          exact ret_box3 (p := 2) (q := 3) (r := 4) rfl rfl HSD.out.done_res Tryd.underlying28 rfl infoO rfl HSD.out.done
    · have hkd : decide (k < n) = true := by simp; omega
      have hkl : k < n := by omega
      obtain ⟨ab, ao, rfl, hrd⟩ := HB.out.read k hkl
      have HRD := Lib.hid hrd
      obtain ⟨word, hwd⟩ : ∃ x, l[k]?.getD ByteArray.empty = x := ⟨_, rfl⟩
      have hcx : wr.cell? ⟨ab, ao + k, none⟩ = some (.string word) := by
        have := hrd k hkl
        rw [hwd] at this
        have hbl : Below w.heap.size w wr := by rw [HBB.out]; exact HS.out.bel
        rw [hbl.cell (World.block_lt_of_cell? w _ this)]
        exact this
      have hws : word.size ≤ 9223372036854775807 := HSZ.out word (by rw [← hwd, List.getElem?_eq_getElem (by have := HL.out; omega)]; exact List.getElem_mem _)
      have HD : Hid (l.drop k = word :: l.drop (k + 1)) := Lib.hid (by rw [← hwd]; exact drop_at' l k (by have := HL.out; omega))
      have HO := Lib.hid (isOption_any wr word (by omega))
      clear hwd hrd hkn hk hN
      cases hio : isOpt word with
      | false =>
        rw [hio] at HO
        have HF : Hid (finish (l.drop k) o = parF l opt0) := Lib.hid (by rw [← HP.out, HD.out, par_not _ _ _ hio])
        go_upto_region 4 with fail
        refine HO.out.mono ?_
        rintro e w2 ⟨rfl, rfl⟩
        go_upto_region 30 with fail
        clear HP HD hcx hkd HO
        have hm : k ≤ n := by omega
        have c4 : wr.cell? ⟨B + 1, 4, none⟩ = some (.slice ap o.parts.length cp) := HS.out.cell 4
        have c4f : wr.frozen? ⟨B + 1, 4, none⟩ = false := HS.out.frozen 4
        by_cases hp0 : o.parts.length = 0
        · have hpe := List.eq_nil_of_length_eq_zero hp0
          have hpd : ((o.parts.length : Int) == 0) = true := by simp [hp0]
          by_cases hkn2 : k = n
          · exfalso; omega
          · have hke : ((k : Int) == (n : Int)) = false := by simp; omega
            obtain ⟨x, hx⟩ : ∃ x, l[k]?.getD ByteArray.empty = x := ⟨_, rfl⟩
            have HR : Hid (parF l opt0 = ({ o with parts := [(false, x)], files := l.drop (k + 1) }, 0, ByteArray.empty)) := Lib.hid (by rw [← HF.out, drop_at' l k (by have := HL.out; omega), hx]; exact fin_one _ _ _ hpe)
            have hcx : wr.cell? ⟨ab, ao + k, none⟩ = some (.string x) := by
              have := HRD.out k (by omega)
              rw [hx] at this
              have hbl : Below w.heap.size w wr := by rw [HBB.out]; exact HS.out.bel
              rw [hbl.cell (World.block_lt_of_cell? w _ this)]
              exact this
            obtain ⟨hO, f1, f2⟩ := HS.out.one x
            have HO := Lib.hid hO
            clear HF hx hO
            go_upto_region 34 with fail
            obtain ⟨m2, hme⟩ : ∃ m2, k + 1 = m2 := ⟨_, rfl⟩
            have hmi : (k : Int) + 1 = (m2 : Int) := by omega
            rw [hme] at HR
            have hm : m2 ≤ n := by omega
            generalize ((wr.alloc (.cells #[.bool false, .string x] 66)).setCell ⟨B + 1, 4, none⟩ (.slice (some ⟨wr.heap.size, 0, none⟩) 1 1)) = wq at HO ⊢
            clear HS f1 f2 c4 c4f hcx hke hkn2 hpd
            have HS := HO
            clear HO
            go_upto_region 35 with fail
            try rw [hmi]
            clear hmi
            have HTB := Lib.hid (HB.out.below (by rw [HBB.out]; exact HS.out.bel))
            by_cases hcm : c = m2
            · have HCL := Lib.hid (clone_anyT _ _ 0 0 [] (TS.drop0 HTB.out))
              have HDR : Hid (l.drop m2 = []) := Lib.hid (List.drop_eq_nil_of_le (by have := HL.out; omega))
              rw [HDR.out] at HR
              clear HTB
              obtain rfl : n = m2 := by omega
              obtain rfl : c = n := hcm
              go_wp2_with fail
              refine HCL.out.mono ?_
              rintro e w2 ⟨af, cf, rfl, hof, hbf⟩
              obtain ⟨hSD, f1, f2⟩ := HS.out.file hof hbf
              have HSD := Lib.hid hSD
              clear hof hbf hSD
              go_wp2_with (first | (refine wpList_load_row rfl TOpt (.tmp 5) rfl (B + 1) rfl TOpt _ (0, 0) _ HSD.out.box Tryd.underlying28 rfl infoO ?_) | (refine wpList_store_row rfl TOpt (.tmp 2) (.tmp 115) rfl rfl B TOpt _ _ rfl rfl HSD.out.res rfl infoO (by simp [Value.oneCell']) ?_))
              rw [Exit.noGoto_ret, HR.out]
              exact ret_box3 (p := 2) (q := 3) (r := 4) rfl rfl HSD.out.done_res Tryd.underlying28 rfl infoO rfl HSD.out.done
            · have HCL := Lib.hid (clone_anyT _ _ _ _ (l.drop m2) (TS.drop1s HTB.out m2 hm hcm))
              clear HTB
              go_wp2_with fail
              refine HCL.out.mono ?_
              rintro e w2 ⟨af, cf, he, hof, hbf⟩
              rw [List.length_drop, HL.out] at he hof
              subst he
              obtain ⟨hSD, f1, f2⟩ := HS.out.file hof hbf
              have HSD := Lib.hid hSD
              clear hof hbf hSD
              go_wp2_with (first | (refine wpList_load_row rfl TOpt (.tmp 5) rfl (B + 1) rfl TOpt _ (0, 0) _ HSD.out.box Tryd.underlying28 rfl infoO ?_) | (refine wpList_store_row rfl TOpt (.tmp 2) (.tmp 115) rfl rfl B TOpt _ _ rfl rfl HSD.out.res rfl infoO (by simp [Value.oneCell']) ?_))
              rw [Exit.noGoto_ret, HR.out]
              exact ret_box3 (p := 2) (q := 3) (r := 4) rfl rfl HSD.out.done_res Tryd.underlying28 rfl infoO rfl HSD.out.done
        · have hpd : ((o.parts.length : Int) == 0) = false := by simp [hp0]
          have HR : Hid (parF l opt0 = ({ o with files := l.drop k }, 0, ByteArray.empty)) := Lib.hid (by rw [← HF.out]; exact fin_many _ _ (fun e => hp0 (by rw [e]; rfl)))
          clear HF
          go_upto_region 35 with fail
          have HTB := Lib.hid (HB.out.below (by rw [HBB.out]; exact HS.out.bel))
          by_cases hcm : c = k
          · exfalso; omega
          · have HCL := Lib.hid (clone_anyT _ _ _ _ (l.drop k) (TS.drop1s HTB.out k hm hcm))
            clear HTB
            go_wp2_with fail
            refine HCL.out.mono ?_
            rintro e w2 ⟨af, cf, he, hof, hbf⟩
            rw [List.length_drop, HL.out] at he hof
            subst he
            obtain ⟨hSD, f1, f2⟩ := HS.out.file hof hbf
            have HSD := Lib.hid hSD
            clear hof hbf hSD
            go_wp2_with (first | (refine wpList_load_row rfl TOpt (.tmp 5) rfl (B + 1) rfl TOpt _ (0, 0) _ HSD.out.box Tryd.underlying28 rfl infoO ?_) | (refine wpList_store_row rfl TOpt (.tmp 2) (.tmp 115) rfl rfl B TOpt _ _ rfl rfl HSD.out.res rfl infoO (by simp [Value.oneCell']) ?_))
            rw [Exit.noGoto_ret, HR.out]
            exact ret_box3 (p := 2) (q := 3) (r := 4) rfl rfl HSD.out.done_res Tryd.underlying28 rfl infoO rfl HSD.out.done
      | true =>
        rw [hio] at HO
        go_upto_region 4 with fail
        refine HO.out.mono ?_
        rintro e w2 ⟨rfl, rfl⟩
        clear HO hkd
        go_upto_region 6 with fail
        clear hcx
        by_cases hdd : word = str [45, 45]
        · have hq : (ByteArray.toList word == [45, 45]) = true := by rw [hdd, dash_list]; rfl
          have HF : Hid (finish (l.drop (k + 1)) o = parF l opt0) := Lib.hid (by rw [← HP.out, HD.out, hdd, par_end])
          clear HP HD hio hdd
          have hm : k + 1 ≤ n := by omega
          obtain ⟨m, hme⟩ : ∃ m, k + 1 = m := ⟨_, rfl⟩
          have hmi : (k : Int) + 1 = (m : Int) := by omega
          rw [hme] at HF hm
          go_upto_region 30 with fail
          try rw [hmi]
          clear hmi
          have c4 : wr.cell? ⟨B + 1, 4, none⟩ = some (.slice ap o.parts.length cp) := HS.out.cell 4
          have c4f : wr.frozen? ⟨B + 1, 4, none⟩ = false := HS.out.frozen 4
          by_cases hp0 : o.parts.length = 0
          · have hpe := List.eq_nil_of_length_eq_zero hp0
            have hpd : ((o.parts.length : Int) == 0) = true := by simp [hp0]
            by_cases hkn2 : m = n
            · have hke : ((m : Int) == (n : Int)) = true := by simp [hkn2]
              have HR : Hid (parF l opt0 = (opt0, 91, ByteArray.empty)) := Lib.hid (by rw [← HF.out, List.drop_eq_nil_of_le (by have := HL.out; omega)]; exact fin_none o hpe)
              go_wp2_with (refine wpList_store_row rfl TOpt (.tmp 2) (.tmp 100) rfl rfl B TOpt _ zeroO rfl rfl HS.out.res rfl infoO (by decide) ?_)
              rw [Exit.noGoto_ret]
              rw [HR.out]
              exact ret_box3 (p := 2) (q := 3) (r := 4) rfl rfl HS.out.zero_res Tryd.underlying28 rfl infoO rfl (HS.out.zero 91 ByteArray.empty)
            · have hke : ((m : Int) == (n : Int)) = false := by simp; omega
              obtain ⟨x, hx⟩ : ∃ x, l[m]?.getD ByteArray.empty = x := ⟨_, rfl⟩
              have HR : Hid (parF l opt0 = ({ o with parts := [(false, x)], files := l.drop (m + 1) }, 0, ByteArray.empty)) := Lib.hid (by rw [← HF.out, drop_at' l m (by have := HL.out; omega), hx]; exact fin_one _ _ _ hpe)
              have hcx : wr.cell? ⟨ab, ao + m, none⟩ = some (.string x) := by
                have := HRD.out m (by omega)
                rw [hx] at this
                have hbl : Below w.heap.size w wr := by rw [HBB.out]; exact HS.out.bel
                rw [hbl.cell (World.block_lt_of_cell? w _ this)]
                exact this
              obtain ⟨hO, f1, f2⟩ := HS.out.one x
              have HO := Lib.hid hO
              clear HF hx hO
              go_upto_region 34 with fail
              obtain ⟨m2, hme⟩ : ∃ m2, m + 1 = m2 := ⟨_, rfl⟩
              have hmi : (m : Int) + 1 = (m2 : Int) := by omega
              rw [hme] at HR
              have hm : m2 ≤ n := by omega
              generalize ((wr.alloc (.cells #[.bool false, .string x] 66)).setCell ⟨B + 1, 4, none⟩ (.slice (some ⟨wr.heap.size, 0, none⟩) 1 1)) = wq at HO ⊢
              clear HS f1 f2 c4 c4f hcx hke hkn2 hpd
              have HS := HO
              clear HO
              go_upto_region 35 with fail
              try rw [hmi]
              clear hmi
              have HTB := Lib.hid (HB.out.below (by rw [HBB.out]; exact HS.out.bel))
              by_cases hcm : c = m2
              · have HCL := Lib.hid (clone_anyT _ _ 0 0 [] (TS.drop0 HTB.out))
                have HDR : Hid (l.drop m2 = []) := Lib.hid (List.drop_eq_nil_of_le (by have := HL.out; omega))
                rw [HDR.out] at HR
                clear HTB
                obtain rfl : n = m2 := by omega
                obtain rfl : c = n := hcm
                go_wp2_with fail
                refine HCL.out.mono ?_
                rintro e w2 ⟨af, cf, rfl, hof, hbf⟩
                obtain ⟨hSD, f1, f2⟩ := HS.out.file hof hbf
                have HSD := Lib.hid hSD
                clear hof hbf hSD
                go_wp2_with (first | (refine wpList_load_row rfl TOpt (.tmp 5) rfl (B + 1) rfl TOpt _ (0, 0) _ HSD.out.box Tryd.underlying28 rfl infoO ?_) | (refine wpList_store_row rfl TOpt (.tmp 2) (.tmp 115) rfl rfl B TOpt _ _ rfl rfl HSD.out.res rfl infoO (by simp [Value.oneCell']) ?_))
                rw [Exit.noGoto_ret, HR.out]
                exact ret_box3 (p := 2) (q := 3) (r := 4) rfl rfl HSD.out.done_res Tryd.underlying28 rfl infoO rfl HSD.out.done
              · have HCL := Lib.hid (clone_anyT _ _ _ _ (l.drop m2) (TS.drop1s HTB.out m2 hm hcm))
                clear HTB
                go_wp2_with fail
                refine HCL.out.mono ?_
                rintro e w2 ⟨af, cf, he, hof, hbf⟩
                rw [List.length_drop, HL.out] at he hof
                subst he
                obtain ⟨hSD, f1, f2⟩ := HS.out.file hof hbf
                have HSD := Lib.hid hSD
                clear hof hbf hSD
                go_wp2_with (first | (refine wpList_load_row rfl TOpt (.tmp 5) rfl (B + 1) rfl TOpt _ (0, 0) _ HSD.out.box Tryd.underlying28 rfl infoO ?_) | (refine wpList_store_row rfl TOpt (.tmp 2) (.tmp 115) rfl rfl B TOpt _ _ rfl rfl HSD.out.res rfl infoO (by simp [Value.oneCell']) ?_))
                rw [Exit.noGoto_ret, HR.out]
                exact ret_box3 (p := 2) (q := 3) (r := 4) rfl rfl HSD.out.done_res Tryd.underlying28 rfl infoO rfl HSD.out.done
          · have hpd : ((o.parts.length : Int) == 0) = false := by simp [hp0]
            have HR : Hid (parF l opt0 = ({ o with files := l.drop m }, 0, ByteArray.empty)) := Lib.hid (by rw [← HF.out]; exact fin_many _ _ (fun e => hp0 (by rw [e]; rfl)))
            clear HF
            go_upto_region 35 with fail
            have HTB := Lib.hid (HB.out.below (by rw [HBB.out]; exact HS.out.bel))
            by_cases hcm : c = m
            · have HCL := Lib.hid (clone_anyT _ _ 0 0 [] (TS.drop0 HTB.out))
              have HDR : Hid (l.drop m = []) := Lib.hid (List.drop_eq_nil_of_le (by have := HL.out; omega))
              rw [HDR.out] at HR
              clear HTB
              obtain rfl : n = m := by omega
              obtain rfl : c = n := hcm
              go_wp2_with fail
              refine HCL.out.mono ?_
              rintro e w2 ⟨af, cf, rfl, hof, hbf⟩
              obtain ⟨hSD, f1, f2⟩ := HS.out.file hof hbf
              have HSD := Lib.hid hSD
              clear hof hbf hSD
              go_wp2_with (first | (refine wpList_load_row rfl TOpt (.tmp 5) rfl (B + 1) rfl TOpt _ (0, 0) _ HSD.out.box Tryd.underlying28 rfl infoO ?_) | (refine wpList_store_row rfl TOpt (.tmp 2) (.tmp 115) rfl rfl B TOpt _ _ rfl rfl HSD.out.res rfl infoO (by simp [Value.oneCell']) ?_))
              rw [Exit.noGoto_ret, HR.out]
              exact ret_box3 (p := 2) (q := 3) (r := 4) rfl rfl HSD.out.done_res Tryd.underlying28 rfl infoO rfl HSD.out.done
            · have HCL := Lib.hid (clone_anyT _ _ _ _ (l.drop m) (TS.drop1s HTB.out m hm hcm))
              clear HTB
              go_wp2_with fail
              refine HCL.out.mono ?_
              rintro e w2 ⟨af, cf, he, hof, hbf⟩
              rw [List.length_drop, HL.out] at he hof
              subst he
              obtain ⟨hSD, f1, f2⟩ := HS.out.file hof hbf
              have HSD := Lib.hid hSD
              clear hof hbf hSD
              go_wp2_with (first | (refine wpList_load_row rfl TOpt (.tmp 5) rfl (B + 1) rfl TOpt _ (0, 0) _ HSD.out.box Tryd.underlying28 rfl infoO ?_) | (refine wpList_store_row rfl TOpt (.tmp 2) (.tmp 115) rfl rfl B TOpt _ _ rfl rfl HSD.out.res rfl infoO (by simp [Value.oneCell']) ?_))
              rw [Exit.noGoto_ret, HR.out]
              exact ret_box3 (p := 2) (q := 3) (r := 4) rfl rfl HSD.out.done_res Tryd.underlying28 rfl infoO rfl HSD.out.done
        · have hq : (ByteArray.toList word == [45, 45]) = false := by
            have := str_eqd word (str [45, 45])
            rw [decide_eq_false hdd, dash_list] at this
            exact this
          have h1w : 1 < word.size := by unfold isOpt at hio; exact (of_decide_eq_true hio).1
          have HIO := Lib.hid hio
          have HDD := Lib.hid hdd
          clear hio hdd
          have hroom := fun pos h => let_room word pos h1w h
          have HROOM := Lib.hid hroom
          clear hroom
          have hts := tail_size word h1w
          go_wp2_with fail
          rw [show ByteArray.extract word 1 (ByteArray.size word) = tailW word from rfl]
          obtain ⟨s, hs⟩ : ∃ s, tailW word = s := ⟨_, rfl⟩
          obtain ⟨m, hme⟩ : ∃ m, k + 1 = m := ⟨_, rfl⟩
          have hmi : (k : Int) + 1 = (m : Int) := by omega
          rw [hme] at HD
          rw [hs] at HROOM hts ⊢
          rw [hmi]
          have HW := Lib.hid hs
          have hb1 : Below wr.heap.size wr (wr.iter s 0) := (Below.refl _ wr).alloc (Nat.le_refl _) _
          have hS1 := HS.out.below hb1
          have hit1 := World.iter_heap wr s 0
          have hbB := HS.out.sz
          obtain ⟨bi, hbi⟩ : ∃ bi, wr.heap.size = bi := ⟨_, rfl⟩
          rw [hbi] at hbB hit1 ⊢
          generalize wr.iter s 0 = w0 at hS1 hit1 ⊢
          have HS1 := Lib.hid (And.intro hS1 hit1)
          clear hb1 hS1 hit1 HS hmi hs hbi
          go_loopw [6] (fun x wz => x = .int .i64 m ∧ ∃ (pos fuel : Nat) (o' : Opt), SO w wz B o' (.slice ap o.parts.length cp) ∧ wz.heap[bi]? = some (.stringIter s pos) ∧ letF s fuel pos o' = letF s s.size 0 o ∧ s.size ≤ pos + fuel ∧ o'.parts = o.parts) (fun _ wz => s.size - wz.iterPos bi)
          case atStart => exact ⟨rfl, 0, s.size, o, HS1.out.1, HS1.out.2, rfl, by omega, rfl⟩
          case round =>
            clear HS1
            obtain ⟨rfl, pos, fuel, o', hS, hit, hlet, hfu, hop⟩ := hrel
            have HLET := Lib.hid hlet
            clear hlet
            by_cases hp : pos < s.size
            · obtain ⟨f, rfl⟩ : ∃ f, fuel = f + 1 := ⟨fuel - 1, by omega⟩
              have hnx : ∀ ty, (Instr.next (.pointer (some ⟨bi, 0, none⟩)) true ty).run Tryd.prog wr = _ := fun ty => Lib.run_next_any_at wr bi s pos ty hit hp
              obtain ⟨df1, df2, -⟩ := dec_fact s pos hp
              obtain ⟨hr1, hr2, hr3⟩ := HROOM.out pos hp
              obtain ⟨d, hd⟩ : ∃ d, Utf8.decode s pos = d := ⟨_, rfl⟩
              rw [hd] at hnx df1 df2 hr3
              have HD1 := Lib.hid (congrArg Prod.fst hd)
              have HLT := Lib.hid (fun wx => letterAt_any wx (word.extract (pos + 1) word.size) (d.1 : Int) (by omega) hr1 (fun h => ⟨(hr3 h).1, (hr3 h).2.1⟩))
              have HSTEP : Hid (letF s (f + 1) pos o' = _) := Lib.hid (by rw [letF, if_pos hp, hd])
              obtain ⟨r, wd⟩ := d
              simp only at hnx df1 df2 HLT HSTEP
              have hS2 := hS.iter hit hbB (pos + wd)
              have hit2 := Lib.iterAt_heap wr bi s pos (pos + wd) hit
              have HS2 := Lib.hid (And.intro hS2 hit2)
              have HIT := Lib.hid hit
              rw [Nat.add_comm pos 1] at HLT
              obtain ⟨lt, hlt⟩ : ∃ lt, letOf (word.extract (1 + pos) word.size) (r : Int) = lt := ⟨_, rfl⟩
              rw [hlt] at HLT
              have HLTE := Lib.hid hlt
              have HSP : Hid (1 ≤ (word.extract (1 + pos) word.size).size) := Lib.hid (by rw [Nat.add_comm]; exact hr1)
              clear hS hit hr3 hd hS2 hit2 hlt hr1 hr2
              go_upto_region 11 with fail
              refine (HLT.out _).mono ?_
              rintro e w2 ⟨rfl, rfl⟩
              clear hnx HLT
              generalize wr.iterAt bi s (pos + wd) = wi at HS2 ⊢
              have hit3 : ∀ v j, (wi.setCell ⟨B + 1, j, none⟩ v).heap[bi]? = some (.stringIter s (pos + wd)) := fun v j => by
                rw [heap_setCell_other wi ⟨B + 1, j, none⟩ bi v (by simp; omega)]; exact HS2.out.2
              have HIT3 := Lib.hid hit3
              clear hit3
              go_upto_region 11 with fail
              by_cases h110 : r = 110
              · have hrc : ((r : Int) == 110) = true := by simp [h110]
                have HL2 : Hid (letF s f (pos + wd) { o' with q := true } = letF s s.size 0 o) := Lib.hid (by rw [← HLET.out, HSTEP.out, if_pos h110])
                have HN := Lib.hid (And.intro (HS2.out.1.set 0 (.bool true) { o' with q := true } rfl rfl rfl) (HIT3.out (.bool true) 0))
                have c0 : wi.cell? ⟨B + 1, 0, none⟩ = some (.bool o'.q) := HS2.out.1.cell 0
                have f0 : wi.frozen? ⟨B + 1, 0, none⟩ = false := HS2.out.1.frozen 0
                go_wp2_with fail
                go_roundw
                case rel => exact ⟨rfl, pos + wd, f, _, HN.out.1, HN.out.2, HL2.out, by omega, hop⟩
                case measure =>
                  simp only [World.iterPos, HN.out.2, HIT.out]
                  omega
              have n110 : ((r : Int) == 110) = false := by simp; omega
              by_cases h69 : r = 69
              · have hrc : ((r : Int) == 69) = true := by simp [h69]
                have HL2 : Hid (letF s f (pos + wd) { o' with e := true } = letF s s.size 0 o) := Lib.hid (by rw [← HLET.out, HSTEP.out, if_neg h110, if_pos h69])
                have HN := Lib.hid (And.intro (HS2.out.1.set 1 (.bool true) { o' with e := true } rfl rfl rfl) (HIT3.out (.bool true) 1))
                have c1 : wi.cell? ⟨B + 1, 1, none⟩ = some (.bool o'.e) := HS2.out.1.cell 1
                have f1 : wi.frozen? ⟨B + 1, 1, none⟩ = false := HS2.out.1.frozen 1
                go_wp2_with fail
                go_roundw
                case rel => exact ⟨rfl, pos + wd, f, _, HN.out.1, HN.out.2, HL2.out, by omega, hop⟩
                case measure =>
                  simp only [World.iterPos, HN.out.2, HIT.out]
                  omega
              have n69 : ((r : Int) == 69) = false := by simp; omega
              by_cases h105 : r = 105
              · have hrc : ((r : Int) == 105) = true := by simp [h105]
                have HL2 : Hid (letF s f (pos + wd) { o' with i := true, a := true } = letF s s.size 0 o) := Lib.hid (by rw [← HLET.out, HSTEP.out, if_neg h110, if_neg h69, if_pos h105])
                have HN : Hid (SO w ((wi.setCell ⟨B + 1, 3, none⟩ (.bool true)).setCell ⟨B + 1, 2, none⟩ (.bool true)) B { o' with i := true, a := true } (.slice ap o.parts.length cp) ∧ ((wi.setCell ⟨B + 1, 3, none⟩ (.bool true)).setCell ⟨B + 1, 2, none⟩ (.bool true)).heap[bi]? = some (.stringIter s (pos + wd))) := Lib.hid (And.intro ((HS2.out.1.set 3 (.bool true) { o' with i := true } rfl rfl rfl).set 2 (.bool true) { o' with i := true, a := true } rfl rfl rfl) (by rw [heap_setCell_other _ ⟨B + 1, 2, none⟩ bi _ (by simp; omega)]; exact HIT3.out (.bool true) 3))
                have c3 : wi.cell? ⟨B + 1, 3, none⟩ = some (.bool o'.i) := HS2.out.1.cell 3
                have f3 : wi.frozen? ⟨B + 1, 3, none⟩ = false := HS2.out.1.frozen 3
                have c2 : (wi.setCell ⟨B + 1, 3, none⟩ (.bool true)).cell? ⟨B + 1, 2, none⟩ = some (.bool o'.a) := (HS2.out.1.set 3 (.bool true) { o' with i := true } rfl rfl rfl).cell 2
                have f2 : (wi.setCell ⟨B + 1, 3, none⟩ (.bool true)).frozen? ⟨B + 1, 2, none⟩ = false := (HS2.out.1.set 3 (.bool true) { o' with i := true } rfl rfl rfl).frozen 2
                go_wp2_with fail
                go_roundw
                case rel => exact ⟨rfl, pos + wd, f, _, HN.out.1, HN.out.2, HL2.out, by omega, hop⟩
                case measure =>
                  simp only [World.iterPos, HN.out.2, HIT.out]
                  omega
              have n105 : ((r : Int) == 105) = false := by simp; omega
              by_cases h115 : r = 115
              · have hrc : ((r : Int) == 115) = true := by simp [h115]
                have HL2 : Hid (letF s f (pos + wd) { o' with a := true } = letF s s.size 0 o) := Lib.hid (by rw [← HLET.out, HSTEP.out, if_neg h110, if_neg h69, if_neg h105, if_pos h115])
                have HN := Lib.hid (And.intro (HS2.out.1.set 2 (.bool true) { o' with a := true } rfl rfl rfl) (HIT3.out (.bool true) 2))
                have c2 : wi.cell? ⟨B + 1, 2, none⟩ = some (.bool o'.a) := HS2.out.1.cell 2
                have f2 : wi.frozen? ⟨B + 1, 2, none⟩ = false := HS2.out.1.frozen 2
                go_wp2_with fail
                go_roundw
                case rel => exact ⟨rfl, pos + wd, f, _, HN.out.1, HN.out.2, HL2.out, by omega, hop⟩
                case measure =>
                  simp only [World.iterPos, HN.out.2, HIT.out]
                  omega
              have n115 : ((r : Int) == 115) = false := by simp; omega
              have HNO := Lib.hid (And.intro h110 (And.intro h69 (And.intro h105 h115)))
              clear h110 h69 h105 h115
              by_cases h12 : r = 101 ∨ r = 102
              · have HARG : Hid (letF s s.size 0 o = .arg o' (decide (r = 102)) pos) := Lib.hid (by
                  obtain ⟨g1, g2, g3, g4⟩ := HNO.out
                  rw [← HLET.out, HSTEP.out, if_neg g1, if_neg g2, if_neg g3, if_neg g4, if_pos h12])
                have hl1 : lt.size = 1 := by
                  have e := HLTE.out
                  have er : (r : Int) = 101 ∨ (r : Int) = 102 := by omega
                  rw [← e]
                  unfold letOf
                  rw [if_neg (by omega)]
                  have : (Lib.runeLen (r : Int)).toNat = 1 := by rcases er with er | er <;> (rw [er]; rfl)
                  rw [this, ByteArray.size_extract]
                  have := HSP.out
                  omega
                clear HLET HSTEP HROOM
                have HS3 := Lib.hid HS2.out.1
                have HLD := Lib.hid h12
                rcases h12 with h12 | h12
                · have b1 : ((r : Int) == 101) = true := by simp [h12]
                  have b2 : ((r : Int) == 102) = false := by simp [h12]
                  have HLE : Hid (lt = str [101]) := Lib.hid (by
                    rw [← HLTE.out, h12, Nat.add_comm]
                    exact let_is word pos h1w (by rw [HW.out]; exact hp) 101 (by decide) (by rw [HW.out, HD1.out]; exact h12) (by decide))
                  go_upto_region 23 with fail
                  obtain ⟨tx, htx⟩ : ∃ tx, word.extract (1 + pos + 1) word.size = tx := ⟨_, rfl⟩
                  rw [htx]
                  have htx2 : word.extract (pos + 2) word.size = tx := by rw [← htx]; congr 1; omega
                  have HA : Hid (letF (tailW word) (tailW word).size 0 o = .arg o' false pos) := Lib.hid (by rw [HW.out, HARG.out, h12]; rfl)
                  by_cases hte : tx = ByteArray.empty
                  · have hqe : (ByteArray.toList tx == []) = true := by rw [nil_eqd]; exact decide_eq_true hte
                    have htx3 := htx2.trans hte
                    by_cases hmn : m = n
                    · have HR : Hid (parF l opt0 = (opt0, 91, lt)) := Lib.hid (by
                        rw [← HP.out, HD.out, List.drop_eq_nil_of_le (by have := HL.out; omega), par_use word o o' false pos HIO.out HDD.out HA.out htx3, HLE.out]; rfl)
                      have hme2 : ((m : Int) == (n : Int)) = true := by simp [hmn]
                      clear htx htx2 htx3 hte
                      go_wp2_with (refine wpList_store_row rfl TOpt (.tmp 2) (.tmp 73) rfl rfl B TOpt _ zeroO rfl rfl HS3.out.res rfl infoO (by decide) ?_)
                      rw [HR.out]
                      exact ret_box3 (p := 2) (q := 3) (r := 4) rfl rfl HS3.out.zero_res Tryd.underlying28 rfl infoO rfl (HS3.out.zero 91 lt)
                    · have hme2 : ((m : Int) == (n : Int)) = false := by simp; omega
                      obtain ⟨x, hx⟩ : ∃ x, l[m]?.getD ByteArray.empty = x := ⟨_, rfl⟩
                      have hcx : wi.cell? ⟨ab, ao + m, none⟩ = some (.string x) := by
                        have := HRD.out m (by omega)
                        rw [hx] at this
                        have hbl : Below w.heap.size w wi := by rw [HBB.out]; exact HS3.out.bel
                        rw [hbl.cell (World.block_lt_of_cell? w _ this)]
                        exact this
                      have HN : Hid (parF (l.drop (m + 1)) (push o' false x) = parF l opt0) := Lib.hid (by
                        rw [← HP.out, HD.out, drop_at' l m (by have := HL.out; omega), hx, par_need word x _ o o' false pos HIO.out HDD.out HA.out htx3])
                      clear htx htx2 htx3 hte hx
                      go_upto_region 28 with fail
                      have c4 : wi.cell? ⟨B + 1, 4, none⟩ = some (.slice ap o.parts.length cp) := HS3.out.cell 4
                      have f4 : wi.frozen? ⟨B + 1, 4, none⟩ = false := HS3.out.frozen 4
                      go_wp2_with (at_builtin; refine append_pt rfl (.tmp 82) (.tmp 87) rfl (B + 2) _ o'.parts false x rfl HS3.out.own wi.heap.size rfl rfl (by rw [hop]; omega) HS3.out.sz ?_)
                      intro pv' w2 ho hpp
                      rw [← hop] at ho
                      obtain ⟨ap2, cp2, hpv⟩ := own_shape ho
                      generalize List.length _ = nn at hpv
                      subst hpv
                      obtain ⟨hS4, g1, g2⟩ := HS3.out.push ho hpp
                      have HS4 := Lib.hid hS4
                      clear ho hpp hS4 c4 f4
                      go_wp2_with fail
                      go_roundw
                      case rel => exact ⟨m + 1, push o' false x, _, by omega, by simp, HS4.out, HN.out, by unfold push; simp [hop]; omega⟩
                      case measure => simp [intOf]; omega
                  · have hqe : (ByteArray.toList tx == []) = false := by rw [nil_eqd]; exact decide_eq_false hte
                    have HN : Hid (parF (l.drop m) (push o' false tx) = parF l opt0) := Lib.hid (by
                      rw [← HP.out, HD.out, par_arg word _ o o' false pos HIO.out HDD.out HA.out (by rw [htx2]; exact hte), htx2])
                    clear htx htx2 hte
                    go_upto_region 28 with fail
                    have c4 : wi.cell? ⟨B + 1, 4, none⟩ = some (.slice ap o.parts.length cp) := HS3.out.cell 4
                    have f4 : wi.frozen? ⟨B + 1, 4, none⟩ = false := HS3.out.frozen 4
                    go_wp2_with (at_builtin; refine append_pt rfl (.tmp 82) (.tmp 87) rfl (B + 2) _ o'.parts false tx rfl HS3.out.own wi.heap.size rfl rfl (by rw [hop]; omega) HS3.out.sz ?_)
                    intro pv' w2 ho hpp
                    rw [← hop] at ho
                    obtain ⟨ap2, cp2, hpv⟩ := own_shape ho
                    generalize List.length _ = nn at hpv
                    subst hpv
                    obtain ⟨hS4, g1, g2⟩ := HS3.out.push ho hpp
                    have HS4 := Lib.hid hS4
                    clear ho hpp hS4 c4 f4
                    go_wp2_with fail
                    go_roundw
                    case rel => exact ⟨m, push o' false tx, _, by omega, rfl, HS4.out, HN.out, by unfold push; simp [hop]; omega⟩
                    case measure => simp [intOf]; omega
                · have b1 : ((r : Int) == 101) = false := by simp [h12]
                  have b2 : ((r : Int) == 102) = true := by simp [h12]
                  have HLE : Hid (lt = str [102]) := Lib.hid (by
                    rw [← HLTE.out, h12, Nat.add_comm]
                    exact let_is word pos h1w (by rw [HW.out]; exact hp) 102 (by decide) (by rw [HW.out, HD1.out]; exact h12) (by decide))
                  go_upto_region 23 with fail
                  obtain ⟨tx, htx⟩ : ∃ tx, word.extract (1 + pos + 1) word.size = tx := ⟨_, rfl⟩
                  rw [htx]
                  have htx2 : word.extract (pos + 2) word.size = tx := by rw [← htx]; congr 1; omega
                  have HA : Hid (letF (tailW word) (tailW word).size 0 o = .arg o' true pos) := Lib.hid (by rw [HW.out, HARG.out, h12]; rfl)
                  by_cases hte : tx = ByteArray.empty
                  · have hqe : (ByteArray.toList tx == []) = true := by rw [nil_eqd]; exact decide_eq_true hte
                    have htx3 := htx2.trans hte
                    by_cases hmn : m = n
                    · have HR : Hid (parF l opt0 = (opt0, 91, lt)) := Lib.hid (by
                        rw [← HP.out, HD.out, List.drop_eq_nil_of_le (by have := HL.out; omega), par_use word o o' true pos HIO.out HDD.out HA.out htx3, HLE.out]; rfl)
                      have hme2 : ((m : Int) == (n : Int)) = true := by simp [hmn]
                      clear htx htx2 htx3 hte
                      go_wp2_with (refine wpList_store_row rfl TOpt (.tmp 2) (.tmp 73) rfl rfl B TOpt _ zeroO rfl rfl HS3.out.res rfl infoO (by decide) ?_)
                      rw [HR.out]
                      exact ret_box3 (p := 2) (q := 3) (r := 4) rfl rfl HS3.out.zero_res Tryd.underlying28 rfl infoO rfl (HS3.out.zero 91 lt)
                    · have hme2 : ((m : Int) == (n : Int)) = false := by simp; omega
                      obtain ⟨x, hx⟩ : ∃ x, l[m]?.getD ByteArray.empty = x := ⟨_, rfl⟩
                      have hcx : wi.cell? ⟨ab, ao + m, none⟩ = some (.string x) := by
                        have := HRD.out m (by omega)
                        rw [hx] at this
                        have hbl : Below w.heap.size w wi := by rw [HBB.out]; exact HS3.out.bel
                        rw [hbl.cell (World.block_lt_of_cell? w _ this)]
                        exact this
                      have HN : Hid (parF (l.drop (m + 1)) (push o' true x) = parF l opt0) := Lib.hid (by
                        rw [← HP.out, HD.out, drop_at' l m (by have := HL.out; omega), hx, par_need word x _ o o' true pos HIO.out HDD.out HA.out htx3])
                      clear htx htx2 htx3 hte hx
                      go_upto_region 28 with fail
                      have c4 : wi.cell? ⟨B + 1, 4, none⟩ = some (.slice ap o.parts.length cp) := HS3.out.cell 4
                      have f4 : wi.frozen? ⟨B + 1, 4, none⟩ = false := HS3.out.frozen 4
                      go_wp2_with (at_builtin; refine append_pt rfl (.tmp 82) (.tmp 87) rfl (B + 2) _ o'.parts true x rfl HS3.out.own wi.heap.size rfl rfl (by rw [hop]; omega) HS3.out.sz ?_)
                      intro pv' w2 ho hpp
                      rw [← hop] at ho
                      obtain ⟨ap2, cp2, hpv⟩ := own_shape ho
                      generalize List.length _ = nn at hpv
                      subst hpv
                      obtain ⟨hS4, g1, g2⟩ := HS3.out.push ho hpp
                      have HS4 := Lib.hid hS4
                      clear ho hpp hS4 c4 f4
                      go_wp2_with fail
                      go_roundw
                      case rel => exact ⟨m + 1, push o' true x, _, by omega, by simp, HS4.out, HN.out, by unfold push; simp [hop]; omega⟩
                      case measure => simp [intOf]; omega
                  · have hqe : (ByteArray.toList tx == []) = false := by rw [nil_eqd]; exact decide_eq_false hte
                    have HN : Hid (parF (l.drop m) (push o' true tx) = parF l opt0) := Lib.hid (by
                      rw [← HP.out, HD.out, par_arg word _ o o' true pos HIO.out HDD.out HA.out (by rw [htx2]; exact hte), htx2])
                    clear htx htx2 hte
                    go_upto_region 28 with fail
                    have c4 : wi.cell? ⟨B + 1, 4, none⟩ = some (.slice ap o.parts.length cp) := HS3.out.cell 4
                    have f4 : wi.frozen? ⟨B + 1, 4, none⟩ = false := HS3.out.frozen 4
                    go_wp2_with (at_builtin; refine append_pt rfl (.tmp 82) (.tmp 87) rfl (B + 2) _ o'.parts true tx rfl HS3.out.own wi.heap.size rfl rfl (by rw [hop]; omega) HS3.out.sz ?_)
                    intro pv' w2 ho hpp
                    rw [← hop] at ho
                    obtain ⟨ap2, cp2, hpv⟩ := own_shape ho
                    generalize List.length _ = nn at hpv
                    subst hpv
                    obtain ⟨hS4, g1, g2⟩ := HS3.out.push ho hpp
                    have HS4 := Lib.hid hS4
                    clear ho hpp hS4 c4 f4
                    go_wp2_with fail
                    go_roundw
                    case rel => exact ⟨m, push o' true tx, _, by omega, rfl, HS4.out, HN.out, by unfold push; simp [hop]; omega⟩
                    case measure => simp [intOf]; omega
              · have b1 : ((r : Int) == 101) = false := by simp; omega
                have b2 : ((r : Int) == 102) = false := by simp; omega
                have HBAD : Hid (letF s s.size 0 o = .bad r pos) := Lib.hid (by
                  obtain ⟨g1, g2, g3, g4⟩ := HNO.out
                  rw [← HLET.out, HSTEP.out, if_neg g1, if_neg g2, if_neg g3, if_neg g4, if_neg h12])
                have HR : Hid (parF l opt0 = (opt0, 90, lt)) := Lib.hid (by
                  rw [← HP.out, HD.out, par_bad word _ o r pos HIO.out HDD.out (by rw [HW.out]; exact HBAD.out), ← HLTE.out, Nat.add_comm])
                go_wp2_with (refine wpList_store_row rfl TOpt (.tmp 2) (.tmp 90) rfl rfl B TOpt _ zeroO rfl rfl HS2.out.1.res rfl infoO (by decide) ?_)
                rw [HR.out]
                exact ret_box3 (p := 2) (q := 3) (r := 4) rfl rfl HS2.out.1.zero_res Tryd.underlying28 rfl infoO rfl (HS2.out.1.zero 90 lt)
            · have hnx : ∀ ty, (Instr.next (.pointer (some ⟨bi, 0, none⟩)) true ty).run Tryd.prog wr = _ := fun ty => Lib.run_next_end_at wr bi s pos ty hit hp
              have HDN : Hid (letF s s.size 0 o = .done o') := Lib.hid (by rw [← HLET.out]; exact let_end s fuel pos o' hp)
              have HN : Hid (parF (l.drop m) o' = parF l opt0) := Lib.hid (by rw [← HP.out, HD.out, par_done word _ o o' HIO.out HDD.out (by rw [HW.out]; exact HDN.out)])
              have HS3 := Lib.hid hS
              clear hS hit
              go_wp2_with fail
              go_roundw
              case rel => exact ⟨m, o', _, by omega, rfl, HS3.out, HN.out, by rw [hop]; omega⟩
              case measure => simp [intOf]; omega
end Go.Proofs.YtgepjjpcokbpjaaDoor
