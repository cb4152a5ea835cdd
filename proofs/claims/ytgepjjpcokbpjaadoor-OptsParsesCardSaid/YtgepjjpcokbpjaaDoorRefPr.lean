/-
  galleyref28.Parse: it answers what opts.Parse answers.
-/
import Derived.Test.YtgepjjpcokbpjaaDoorRefWd
import Derived.Deep.CutBlock
import Derived.Test.YtgepjjpcokbpjaaDoorSpPt
namespace Go.Proofs.YtgepjjpcokbpjaaDoor
open Go.RowKit

/-- Behind a call of word. -/
structure SP (w wq : World) (B : Nat) (o : Opt) (pv : Value) (l0 : List Str) (o2 : Opt) (pv2 : Value) (k : Nat) (ec : Int) (of : Str) : Prop where
  hB : w.heap.size = B
  box : wq.heap[B + 1]? = some (.cells (fullO o pv (.slice none 0 0)) TOpt (0, 0))
  res : wq.heap[B]? = some (.cells zeroO TOpt (0, 0))
  bel : Below B w wq
  sz : B + 2 ≤ wq.heap.size
  rel : (ec = 0 ∧ of = ByteArray.empty ∧ parF (l0.drop k) o2 = parF l0 o ∧ 1 ≤ k ∧ k ≤ l0.length ∧ OwnPt wq (B + 2) pv2 o2.parts ∧ o2.files = [] ∧ o2.parts.length ≤ o.parts.length + 1) ∨ (ec ≠ 0 ∧ parF l0 o = (opt0, ec, of))
section
variable {w wd wq w' : World} {B : Nat} {o : Opt} {pv : Value} {l0 : List Str} {o2 : Opt} {pv2 : Value} {k : Nat} {ec : Int} {of : Str}
theorem SP.mk' (h : SO w wd B o pv) (hr : WordRel wd wq (B + 2) o pv l0 o2 pv2 k ec of) : SP w wq B o pv l0 o2 pv2 k ec of := by
  have hfar : ∀ k, k < B + 2 → pv.ownBlock ≠ some k := fun k hk e => by have := (World.ownsRow.lt h.own k e).1; omega
  exact ⟨h.hB, (hr.1.block _ (Array.getElem?_eq_some_iff.1 h.box).1 (hfar _ (by omega))).trans h.box, (hr.1.block _ (Array.getElem?_eq_some_iff.1 h.res).1 (hfar _ (by omega))).trans h.res, hr.1.bel _ _ h.bel (by omega), Nat.le_trans h.sz hr.1.size, hr.2⟩
theorem SP.below (h : SP w wq B o pv l0 o2 pv2 k ec of) (hb : Below wq.heap.size wq w') : SP w w' B o pv l0 o2 pv2 k ec of :=
  { h with box := (hb.block _ (Array.getElem?_eq_some_iff.1 h.box).1).trans h.box, res := (hb.block _ (Array.getElem?_eq_some_iff.1 h.res).1).trans h.res, bel := h.bel.trans (hb.mono (by have := h.sz; omega)), sz := Nat.le_trans h.sz hb.size, rel := h.rel.imp (fun ⟨a, b, c, d, e, f, g⟩ => ⟨a, b, c, d, e, own_belowT f hb, g⟩) id }
theorem SP.put (h : SP w wq B o pv l0 o2 pv2 k ec of) {g : Nat} (hg : B + 2 ≤ g) (hne : ec = 0 → ∀ k, pv2.ownBlock = some k → k ≠ g) (cs : Array Value) : SP w (wq.setRow g cs) B o pv l0 o2 pv2 k ec of :=
  { h with box := (_root_.Go.setRow_other _ _ _ _ (by omega)).trans h.box, res := (_root_.Go.setRow_other _ _ _ _ (by omega)).trans h.res, bel := below_setRow h.bel (by omega) _, sz := by simpa [World.setRow] using h.sz, rel := h.rel.imp (fun ⟨a, b, c, d, e, f, r⟩ => ⟨a, b, c, d, e, own_keptW f fun k hk => _root_.Go.setRow_other _ _ _ _ (fun e => hne a k hk e), r⟩) id }
theorem SP.zero (h : SP w wq B o pv l0 o2 pv2 k ec of) (e : Int) (s : Str) : ParseOPost w (opt0, e, s) (.returned (.tuple #[.agg zeroO, .int .i64 e, .string s])) (wq.setRow B zeroO) := by
  have hB := h.hB
  refine ⟨none, 0, none, 0, rfl, OwnPt.nil _ _, OwnT.nil _ _, ?_⟩
  rw [hB]
  exact below_setRow h.bel (Nat.le_refl _) _
theorem SP.next (h : SP w wq B o pv l0 o2 pv2 k ec of) (hec : ec = 0) : SO w (wq.setRow (B + 1) (fullO o2 pv2 (.slice none 0 0))) B o2 pv2 := by
  rcases h.rel with ⟨-, -, -, -, -, f, g, -⟩ | ⟨e, -⟩
  · exact ⟨h.hB, setRow_heap _ _ _ _ _ _ h.box, (_root_.Go.setRow_other _ _ _ _ (by omega)).trans h.res, own_setRow f (B + 1) (by omega) _, below_setRow h.bel (by omega) _, by simpa [World.setRow] using h.sz, g⟩
  · exact absurd hec e
end
theorem SO.cells {w wr : World} {B : Nat} {o : Opt} {ap : Option Addr} {cp : Nat} (h : SO w wr B o (.slice ap o.parts.length cp)) : wr.cell? ⟨B + 1, 0, none⟩ = some (.bool o.q) ∧ wr.cell? ⟨B + 1, 1, none⟩ = some (.bool o.e) ∧ wr.cell? ⟨B + 1, 2, none⟩ = some (.bool o.a) ∧ wr.cell? ⟨B + 1, 3, none⟩ = some (.bool o.i) ∧ wr.cell? ⟨B + 1, 4, none⟩ = some (.slice ap o.parts.length cp) ∧ wr.cell? ⟨B + 1, 5, none⟩ = some (.slice none 0 0) := ⟨h.cell 0, h.cell 1, h.cell 2, h.cell 3, h.cell 4, h.cell 5⟩
theorem SP.cells {w wr : World} {B : Nat} {o : Opt} {ap : Option Addr} {cp : Nat} {l0 : List Str} {o2 : Opt} {pv2 : Value} {k : Nat} {ec : Int} {of : Str} (h : SP w wr B o (.slice ap o.parts.length cp) l0 o2 pv2 k ec of) : wr.cell? ⟨B + 1, 0, none⟩ = some (.bool o.q) ∧ wr.cell? ⟨B + 1, 1, none⟩ = some (.bool o.e) ∧ wr.cell? ⟨B + 1, 2, none⟩ = some (.bool o.a) ∧ wr.cell? ⟨B + 1, 3, none⟩ = some (.bool o.i) ∧ wr.cell? ⟨B + 1, 4, none⟩ = some (.slice ap o.parts.length cp) ∧ wr.cell? ⟨B + 1, 5, none⟩ = some (.slice none 0 0) :=
  ⟨cell_of_row wr (B + 1) 0 _ _ (0, 0) h.box, cell_of_row wr (B + 1) 1 _ _ (0, 0) h.box, cell_of_row wr (B + 1) 2 _ _ (0, 0) h.box, cell_of_row wr (B + 1) 3 _ _ (0, 0) h.box, cell_of_row wr (B + 1) 4 _ _ (0, 0) h.box, cell_of_row wr (B + 1) 5 _ _ (0, 0) h.box⟩
/-- The files come in, one after another. -/
structure SF (w wr : World) (B : Nat) (o : Opt) (pv fv : Value) (fs : List Str) : Prop where
  hB : w.heap.size = B
  box : wr.heap[B + 1]? = some (.cells (fullO o pv fv) TOpt (0, 0))
  res : wr.heap[B]? = some (.cells zeroO TOpt (0, 0))
  own : OwnPt wr (B + 2) pv o.parts
  ownf : OwnT wr (B + 2) fv fs
  ap : Apart fv pv
  bel : Below B w wr
  sz : B + 2 ≤ wr.heap.size
theorem SF.below {w wr w' : World} {B : Nat} {o : Opt} {pv fv : Value} {fs : List Str} (h : SF w wr B o pv fv fs) (hb : Below wr.heap.size wr w') : SF w w' B o pv fv fs :=
  { h with box := (hb.block _ (Array.getElem?_eq_some_iff.1 h.box).1).trans h.box, res := (hb.block _ (Array.getElem?_eq_some_iff.1 h.res).1).trans h.res, own := own_belowT h.own hb, ownf := own_belowT h.ownf hb, bel := h.bel.trans (hb.mono (by have := h.sz; omega)), sz := Nat.le_trans h.sz hb.size }
theorem SF.cell {w wr : World} {B : Nat} {o : Opt} {pv fv : Value} {fs : List Str} (h : SF w wr B o pv fv fs) : wr.cell? ⟨B + 1, 5, none⟩ = some fv := cell_of_row wr (B + 1) 5 _ _ (0, 0) h.box
theorem SF.push {w wr w' : World} {B : Nat} {o : Opt} {pv fv fv' : Value} {fs fs' : List Str} (h : SF w wr B o pv fv fs) (ho : OwnT w' (B + 2) fv' fs') (hp : AppPost wr w' (B + 2) fv fv') : SF w (w'.setCell ⟨B + 1, 5, none⟩ fv') B o pv fv' fs' ∧ w'.cell? ⟨B + 1, 5, none⟩ = some fv ∧ w'.frozen? ⟨B + 1, 5, none⟩ = false := by
  have hfar : ∀ k, k < B + 2 → fv.ownBlock ≠ some k := fun k hk e => by have := (World.ownsRow.lt h.ownf k e).1; omega
  have hbx : w'.heap[B + 1]? = some (.cells (fullO o pv fv) TOpt (0, 0)) := (hp.block _ (Array.getElem?_eq_some_iff.1 h.box).1 (hfar _ (by omega))).trans h.box
  obtain ⟨hop, hap⟩ := hp.other _ _ _ _ pv _ h.own h.ap
  refine ⟨⟨h.hB, ?_, ?_, ownsRow_setCell_below hop (a := ⟨B + 1, 5, none⟩) (by simp) _, ownsRow_setCell_below ho (a := ⟨B + 1, 5, none⟩) (by simp) _, hap, (hp.bel _ _ h.bel (by omega)).setCell (by simp) _, by have := hp.size; have := h.sz; simp [World.setCell]; omega⟩, by rw [cell_of_row w' (B + 1) 5 _ _ (0, 0) hbx]; rfl, frozen_of_row w' (B + 1) 5 _ _ hbx⟩
  · rw [heap_setCell_same w' (B + 1) 5 _ TOpt fv' hbx]; rfl
  · rw [heap_setCell_other w' ⟨B + 1, 5, none⟩ B fv' (by simp), hp.block _ (Array.getElem?_eq_some_iff.1 h.res).1 (hfar _ (by omega))]; exact h.res
theorem SF.done {w wr : World} {B : Nat} {o : Opt} {pv fv : Value} {fs : List Str} (h : SF w wr B o pv fv fs) : SD w wr B { o with files := fs } pv fv := ⟨h.hB, h.box, h.res, h.own, h.ownf, h.bel⟩
/-- append of one string at a step of a region. -/
theorem wp_appT1 {o : Oper} {a : Act} {w : World} {K : Act → World → Prop} {Q : Exit → Act → World → Prop} (s x : Operand)
    (ho : o.op = .call { callee := .builtin .append, args := #[s, x], argTypes := #[22, 22] })
    (base : Nat) (v : Value) (xs : List Str) (y : Str) (hs : a.eval s = v) (hown : OwnT w base v xs) (hx : a.eval x = .slice (some ⟨w.heap.size, 0, none⟩) 1 1) (hsum : xs.length + 1 ≤ 8796093022208) (hbase : base ≤ w.heap.size)
    (h : ∀ v' w', OwnT w' base v' (xs ++ [y]) → AppPost w w' base v v' → K (a.put o.dst v') w') :
    o.wp Tryd.prog a (w.alloc (.cells #[.string y] 9)) K Q := by
  obtain ⟨i0, hi, hz0, hz1, hz2⟩ := info_parts infoT
  have hnews : ∀ j u, [Value.string y][j]? = some u → (w.alloc (.cells #[.string y] 9)).cell? ((⟨w.heap.size, 0, none⟩ : Addr).add j) = some u := by
    intro j u hj
    rw [show (⟨w.heap.size, 0, none⟩ : Addr).add j = ⟨w.heap.size, j, none⟩ by simp [Addr.add]; exact fun h => h.symm, cell_of_row _ w.heap.size j _ 9 (0, 0) (heap_alloc_new w _)]
    simpa using hj
  have hb := (Below.refl w.heap.size w).alloc (Nat.le_refl _) (.cells #[.string y] 9)
  obtain ⟨v', w', hr, hown', hold, hgrow, hat⟩ := run_append_stay (P := Tryd.prog) (w.alloc (.cells #[.string y] 9)) base 22 o.type 9 i0 (.string ByteArray.empty) 1 16 Tryd.underlying22 hi hz0 hz1 hz2 rfl (by decide) v xs.length (xs.map Value.string) (World.ownsRow.alloc hown _) ⟨w.heap.size, 0, none⟩ 1 1 [Value.string y] (by simp) hnews (strs_one [y]) (by unfold maxLen; omega) (by omega) (by rw [World.size_alloc]; omega)
  unfold Oper.wp execOp
  simp only [ho, resolve, invoke, builtin, Sem.run_bind, Sem.run_pure, Result.andThen_ok, List.map_toArray, List.map_cons, List.map_nil, hs, hx, hr]
  refine h v' w' ?_ (app_post hown (Nat.le_refl _) hbase hb hgrow ?_)
  · unfold OwnT
    rw [List.length_append, List.map_append]
    exact hown'
  · rcases hat with h | h
    · exact .inl h
    · exact .inr h.1
set_option maxHeartbeats 4000000 in
set_option maxRecDepth 100000 in
theorem refParseO_any (w : World) (a : Option Addr) (n c : Nat) (l : List Str) (hb : TS w (.slice a n c) l) (hn : n ≤ 4294967296) (hsz : ∀ s ∈ l, s.size ≤ 9223372036854775807) :
    Calls Tryd.prog 10 #[.slice a n c] w (ParseOPost w (parF l opt0)) := by
  obtain ⟨hl, -, hnc, hN⟩ := hb.len
  have HL := Lib.hid hl
  have HB := Lib.hid hb
  have HSZ := Lib.hid hsz
  clear hl hb hsz
  go_enter Tryd.func10, Tryd.ntmps10
  have hS0 : SO w (((w.alloc (.cells #[.bool false, .bool false, .bool false, .bool false, .slice none 0 0, .slice none 0 0] TOpt)).alloc (.cells #[.bool false, .bool false, .bool false, .bool false, .slice none 0 0, .slice none 0 0] TOpt)).setRow (w.heap.size + 1) zeroO) w.heap.size opt0 (.slice none 0 0) := by
    refine ⟨rfl, ?_, ?_, OwnPt.nil _ _, below_setRow (((Below.refl _ w).alloc (Nat.le_refl _) _).alloc (by simp) _) (by omega) _, by simp [World.setRow], rfl⟩
    · refine setRow_heap _ _ zeroO _ TOpt (0, 0) ?_
      have := heap_alloc_new (w.alloc (.cells #[.bool false, .bool false, .bool false, .bool false, .slice none 0 0, .slice none 0 0] TOpt)) (.cells #[.bool false, .bool false, .bool false, .bool false, .slice none 0 0, .slice none 0 0] TOpt)
      rwa [World.size_alloc] at this
    · rw [_root_.Go.setRow_other _ _ _ _ (by omega), Below.heap_alloc _ _ _ (by simp)]; exact heap_alloc_new w _
  have hZ1 : ((w.alloc (.cells #[.bool false, .bool false, .bool false, .bool false, .slice none 0 0, .slice none 0 0] TOpt)).alloc (.cells #[.bool false, .bool false, .bool false, .bool false, .slice none 0 0, .slice none 0 0] TOpt)).heap[w.heap.size + 1]? = some (.cells zeroO TOpt (0, 0)) := by
    have := heap_alloc_new (w.alloc (.cells #[.bool false, .bool false, .bool false, .bool false, .slice none 0 0, .slice none 0 0] TOpt)) (.cells #[.bool false, .bool false, .bool false, .bool false, .slice none 0 0, .slice none 0 0] TOpt)
    rwa [World.size_alloc] at this
  have HZ1 := Lib.hid hZ1
  have HS0 := Lib.hid hS0
  clear hZ1 hS0
  go_upto_region 2 with (refine wpList_store_row rfl TOpt (.tmp 5) (.tmp 11) rfl rfl (w.heap.size + 1) TOpt _ _ rfl rfl HZ1.out rfl infoO (by simp [Value.oneCell']) ?_)
  obtain ⟨B, hB⟩ : ∃ B, w.heap.size = B := ⟨_, rfl⟩
  rw [hB] at HS0 ⊢
  generalize ((w.alloc (.cells #[.bool false, .bool false, .bool false, .bool false, .slice none 0 0, .slice none 0 0] 28)).alloc (.cells #[.bool false, .bool false, .bool false, .bool false, .slice none 0 0, .slice none 0 0] 28)).setRow (B + 1) _ = w1 at HS0 ⊢
  have HBB := Lib.hid hB
  clear hB HZ1
  go_upto_block 0 with fail
  go_cut [6] (fun v wr => ∃ (i : Nat) (o : Opt) (pv : Value), v = .int .i64 i ∧ i ≤ n ∧ SO w wr B o pv ∧ parF (l.drop i) o = parF l opt0 ∧ o.parts.length ≤ i ∧ (i = n ∨ isOpt (l[i]?.getD ByteArray.empty) = false ∨ l[i]?.getD ByteArray.empty = str [45, 45]))
  case first =>
    go_wp2_with fail
    go_loopw [6] (fun x wr => ∃ (k : Nat) (o : Opt) (pv : Value), k ≤ n ∧ x = .int .i64 k ∧ SO w wr B o pv ∧ parF (l.drop k) o = parF l opt0 ∧ o.parts.length ≤ k) (fun x _ => n - (intOf x).toNat)
    case atStart => exact ⟨0, opt0, _, Nat.zero_le _, rfl, HS0.out, rfl, Nat.zero_le _⟩
    case round =>
      clear HS0
      obtain ⟨i, o, pv, hk, rfl, hS, hpar, hpl⟩ := hrel
      obtain ⟨ap, cp, hpv⟩ := own_shape hS.own
      subst hpv
      have HS := Lib.hid hS
      have HP := Lib.hid hpar
      clear hS hpar
      by_cases hkn : i = n
      · have hkd : decide (i < n) = false := by simp; omega
        go_wp2_with fail
        go_meet
        exact ⟨i, o, _, rfl, hk, HS.out, HP.out, hpl, .inl hkn⟩
      · have hkd : decide (i < n) = true := by simp; omega
        have hkl : i < n := by omega
        have hcm : ¬ c = i := by omega
        obtain ⟨ab, ao, rfl, hrd⟩ := HB.out.read i hkl
        obtain ⟨word, hwd⟩ : ∃ x, l[i]?.getD ByteArray.empty = x := ⟨_, rfl⟩
        have hcx : wr.cell? ⟨ab, ao + i, none⟩ = some (.string word) := by
          have := hrd i hkl
          rw [hwd] at this
          have hbl : Below w.heap.size w wr := by rw [HBB.out]; exact HS.out.bel
          rw [hbl.cell (World.block_lt_of_cell? w _ this)]
          exact this
        have hws : word.size ≤ 9223372036854775807 := HSZ.out word (by rw [← hwd, List.getElem?_eq_getElem (by have := HL.out; omega)]; exact List.getElem_mem _)
        have HD : Hid (l.drop i = word :: l.drop (i + 1)) := Lib.hid (by rw [← hwd]; exact drop_at' l i (by have := HL.out; omega))
        have HIS := Lib.hid (refIs_any wr word hws)
        have HWDE := Lib.hid hwd
        clear hwd hrd hkn
        cases hio : isOpt word with
        | false =>
          rw [hio] at HIS
          go_wp2_with fail
          refine HIS.out.mono ?_
          rintro e w2 ⟨rfl, rfl⟩
          go_wp2_with fail
          go_meet
          exact ⟨i, o, _, rfl, hk, HS.out, HP.out, hpl, .inr (.inl (by rw [HWDE.out]; exact hio))⟩
        | true =>
          rw [hio] at HIS
          have hqd := str_eqd word (str [45, 45])
          rw [dash_list] at hqd
          by_cases hdd : word = str [45, 45]
          · have hq : (ByteArray.toList word == [45, 45]) = true := by rw [hqd]; exact decide_eq_true hdd
            have HDD := Lib.hid hdd
            clear hqd hdd
            go_wp2_with fail
            refine HIS.out.mono ?_
            rintro e w2 ⟨rfl, rfl⟩
            go_wp2_with fail
            go_meet
            exact ⟨i, o, _, rfl, hk, HS.out, HP.out, hpl, .inr (.inr (by rw [HWDE.out]; exact HDD.out))⟩
          · have hq : (ByteArray.toList word == [45, 45]) = false := by rw [hqd]; exact decide_eq_false hdd
            have HWD : Hid (∀ wx, SO w wx B o (.slice ap o.parts.length cp) → Calls Tryd.prog 31 #[.agg (fullO o (.slice ap o.parts.length cp) (.slice none 0 0)), .slice (some ⟨ab, ao + i, none⟩) (n - i) (c - i)] wx (WordPost wx (B + 2) o (.slice ap o.parts.length cp) (word :: l.drop (i + 1)))) := Lib.hid fun wx hx => by
              have hts := (HB.out.below (by rw [HBB.out]; exact hx.bel)).drop1s i hk hcm
              rw [HD.out] at hts
              exact refWordO_any wx (B + 2) hx.sz o ap cp hx.own hx.nf (by omega) _ _ _ word _ hts hio hdd hws
            have HP2 : Hid (parF (word :: l.drop (i + 1)) o = parF l opt0) := Lib.hid (by rw [← HD.out]; exact HP.out)
            have HIO := Lib.hid (And.intro hio hdd)
            clear hqd hio hdd HP
            go_wp2_with fail
            refine HIS.out.mono ?_
            rintro e w2 ⟨rfl, rfl⟩
            clear HIS
            go_upto_region 4 with fail
            clear hq hcx
            go_cut [7, 8, 9, 10] (fun v7 v8 v9 v10 wx => ∃ (o2 : Opt) (ap2 : Option Addr) (np2 cp2 kk : Nat) (ec : Int) (of : Str) (g : Nat), v7 = .pointer (some ⟨g, 0, none⟩) ∧ v8 = .int .i64 kk ∧ v9 = .int .i64 ec ∧ v10 = .string of ∧ SP w wx B o (.slice ap o.parts.length cp) (word :: l.drop (i + 1)) o2 (.slice ap2 np2 cp2) kk ec of ∧ wx.heap[g]? = some (.cells (fullO o2 (.slice ap2 np2 cp2) (.slice none 0 0)) TOpt (0, 0)))
            case first =>
              have hst : wr.drew.cell? ⟨B + 1, 0, none⟩ = some (.bool o.q) ∧ wr.drew.cell? ⟨B + 1, 1, none⟩ = some (.bool o.e) ∧ wr.drew.cell? ⟨B + 1, 2, none⟩ = some (.bool o.a) ∧ wr.drew.cell? ⟨B + 1, 3, none⟩ = some (.bool o.i) ∧ wr.drew.cell? ⟨B + 1, 4, none⟩ = some (.slice ap o.parts.length cp) ∧ wr.drew.cell? ⟨B + 1, 5, none⟩ = some (.slice none 0 0) := HS.out.cells
              refine wp_region_held_drew (S := fun w' => w'.cell? ⟨B + 1, 0, none⟩ = some (.bool o.q) ∧ w'.cell? ⟨B + 1, 1, none⟩ = some (.bool o.e) ∧ w'.cell? ⟨B + 1, 2, none⟩ = some (.bool o.a) ∧ w'.cell? ⟨B + 1, 3, none⟩ = some (.bool o.i) ∧ w'.cell? ⟨B + 1, 4, none⟩ = some (.slice ap o.parts.length cp) ∧ w'.cell? ⟨B + 1, 5, none⟩ = some (.slice none 0 0)) (by kernel_rfl) hst (fun hHeld => ?_)
              clear hst
              have HSD : Hid (SO w wr.drew B o (.slice ap o.parts.length cp)) := Lib.hid (HS.out.below (below_drewN (Below.refl _ wr) 1))
              generalize wr.drew = wd at hHeld HSD ⊢
              refine wpAnyH_take (i := 0) (v := .agg (fullO o (.slice ap o.parts.length cp) (.slice none 0 0))) rfl (by kernel_rfl) (by kernel_rfl) (by kernel_rfl) (fun _ _ _ h => h) (Or.inl ⟨by rfl, by intro w hSw; obtain ⟨d0, d1, d2, d3, d4, d5⟩ := hSw; go_simp⟩) (by assumption) ?_
              simp only [Act.put, List.getElem_toArray, List.getElem_cons_zero, List.setIfInBounds_toArray, List.set_cons_zero, List.set_cons_succ]
              refine wpAnyH_take (i := 1) (v := .slice (some ⟨ab, ao, none⟩) n c) rfl (by kernel_rfl) (by kernel_rfl) (by kernel_rfl) (fun _ _ _ h => h) (Or.inl ⟨by rfl, by intro w hSw; obtain ⟨d0, d1, d2, d3, d4, d5⟩ := hSw; go_simp⟩) (by assumption) ?_
              simp only [Act.put, List.getElem_toArray, List.getElem_cons_zero, List.getElem_cons_succ, List.setIfInBounds_toArray, List.set_cons_zero, List.set_cons_succ]
              refine wpAnyH_take (i := 2) (v := .int .i64 (i : Int)) rfl (by kernel_rfl) (by kernel_rfl) (by kernel_rfl) (fun _ _ _ h => h) (Or.inl ⟨by rfl, by intro w hSw; obtain ⟨d0, d1, d2, d3, d4, d5⟩ := hSw; go_simp⟩) (by assumption) ?_
              simp only [Act.put, List.getElem_toArray, List.getElem_cons_zero, List.getElem_cons_succ, List.setIfInBounds_toArray, List.set_cons_zero, List.set_cons_succ]
              refine wpAnyH_take (i := 3) (v := .slice (some ⟨ab, ao + i, none⟩) (n - i : Nat) (c - i : Nat)) rfl (by kernel_rfl) (by kernel_rfl) (by kernel_rfl) (fun _ _ _ h => h) (Or.inl ⟨by rfl, by intro w hSw; obtain ⟨d0, d1, d2, d3, d4, d5⟩ := hSw; go_simp⟩) (by assumption) ?_
              simp only [Act.put, List.getElem_toArray, List.getElem_cons_zero, List.getElem_cons_succ, List.setIfInBounds_toArray, List.set_cons_zero, List.set_cons_succ]
              refine wpAnyH_ready (rs := [4, 10]) (by kernel_rfl) (by simp) ?_
              refine AllReadyH.cons rfl (fun K hK => ?_) (AllReadyH.cons rfl (fun K hK => ?_) AllReadyH.nil)
              · go_simp
                refine (HWD.out wd HSD.out).mono ?_
                rintro e w2 ⟨o2, ap2, np2, cp2, kk, ec, of, rfl, hrel2⟩
                have HSP := Lib.hid (SP.mk' HSD.out hrel2)
                have HNEW := Lib.hid hrel2.1.new
                have HLT := Lib.hid hrel2.1.size
                have HBLK := Lib.hid hrel2.1.block
                clear hrel2
                replace hHeld := HSP.out.cells
                refine hK.out _ _ hHeld (fun hHeld => ?_)
                clear hK K
                refine wpAnyH_take (i := 5) (v := .tuple #[.agg (fullO o2 (.slice ap2 np2 cp2) (.slice none 0 0)), .int .i64 (kk : Int), .int .i64 ec, .string of]) rfl (by kernel_rfl) (by kernel_rfl) (by kernel_rfl) (fun _ _ _ h => h) (Or.inl ⟨by rfl, by intro w hSw; obtain ⟨d0, d1, d2, d3, d4, d5⟩ := hSw; go_simp⟩) (by assumption) ?_
                simp only [Act.put, List.getElem_toArray, List.getElem_cons_zero, List.getElem_cons_succ, List.setIfInBounds_toArray, List.set_cons_zero, List.set_cons_succ]
                refine wpAnyH_take (i := 6) (v := .agg (fullO o2 (.slice ap2 np2 cp2) (.slice none 0 0))) rfl (by kernel_rfl) (by kernel_rfl) (by kernel_rfl) (fun _ _ _ h => h) (Or.inl ⟨by rfl, by intro w hSw; obtain ⟨d0, d1, d2, d3, d4, d5⟩ := hSw; go_simp⟩) (by assumption) ?_
                simp only [Act.put, List.getElem_toArray, List.getElem_cons_zero, List.getElem_cons_succ, List.setIfInBounds_toArray, List.set_cons_zero, List.set_cons_succ]
                refine wpAnyH_take (i := 7) (v := .int .i64 (kk : Int)) rfl (by kernel_rfl) (by kernel_rfl) (by kernel_rfl) (fun _ _ _ h => h) (Or.inl ⟨by rfl, by intro w hSw; obtain ⟨d0, d1, d2, d3, d4, d5⟩ := hSw; go_simp⟩) (by assumption) ?_
                simp only [Act.put, List.getElem_toArray, List.getElem_cons_zero, List.getElem_cons_succ, List.setIfInBounds_toArray, List.set_cons_zero, List.set_cons_succ]
                refine wpAnyH_take (i := 8) (v := .int .i64 ec) rfl (by kernel_rfl) (by kernel_rfl) (by kernel_rfl) (fun _ _ _ h => h) (Or.inl ⟨by rfl, by intro w hSw; obtain ⟨d0, d1, d2, d3, d4, d5⟩ := hSw; go_simp⟩) (by assumption) ?_
                simp only [Act.put, List.getElem_toArray, List.getElem_cons_zero, List.getElem_cons_succ, List.setIfInBounds_toArray, List.set_cons_zero, List.set_cons_succ]
                refine wpAnyH_take (i := 9) (v := .string of) rfl (by kernel_rfl) (by kernel_rfl) (by kernel_rfl) (fun _ _ _ h => h) (Or.inl ⟨by rfl, by intro w hSw; obtain ⟨d0, d1, d2, d3, d4, d5⟩ := hSw; go_simp⟩) (by assumption) ?_
                simp only [Act.put, List.getElem_toArray, List.getElem_cons_zero, List.getElem_cons_succ, List.setIfInBounds_toArray, List.set_cons_zero, List.set_cons_succ]
                refine wpAnyH_ready (rs := [10]) (by kernel_rfl) (by simp) ?_
                refine AllReadyH.cons rfl (fun K hK => ?_) AllReadyH.nil
                have HZ := Lib.hid (heap_alloc_new w2 (.cells zeroO TOpt))
                have HSP4 := Lib.hid (HSP.out.below ((Below.refl w2.heap.size w2).alloc (Nat.le_refl _) (.cells zeroO TOpt)))
                have HGE : Hid (B + 2 ≤ w2.heap.size) := Lib.hid HSP.out.sz
                have HNG : Hid (ec = 0 → ∀ k, (Value.slice ap2 np2 cp2).ownBlock = some k → k ≠ w2.heap.size) := Lib.hid fun he k hk => by
                  rcases HSP.out.rel with ⟨-, -, -, -, -, f, -⟩ | ⟨h, -⟩
                  · have := (World.ownsRow.lt f k hk).2; omega
                  · exact absurd he h
                go_simp
                replace hHeld := HSP4.out.cells
                refine hK.out _ _ hHeld (fun hHeld => ?_)
                clear hK K
                generalize w2.alloc (.cells zeroO TOpt) = w4 at HZ HSP4 hHeld ⊢
                generalize w2.heap.size = g at HZ HGE HNG ⊢
                refine wpAnyH_ready (rs := [11]) (by kernel_rfl) (by simp) ?_
                refine AllReadyH.cons rfl (fun K hK => ?_) AllReadyH.nil
                refine wp_store_row TOpt _ _ rfl g (fullO o2 (.slice ap2 np2 cp2) (.slice none 0 0)) rfl rfl TOpt zeroO HZ.out infoO rfl (by kernel_rfl) ?_
                have HSP5 := Lib.hid (HSP4.out.put HGE.out HNG.out (fullO o2 (.slice ap2 np2 cp2) (.slice none 0 0)))
                have HN5 : Hid ((w4.setRow g (fullO o2 (.slice ap2 np2 cp2) (.slice none 0 0))).heap[g]? = some (.cells (fullO o2 (.slice ap2 np2 cp2) (.slice none 0 0)) TOpt (0, 0))) := Lib.hid (setRow_heap _ _ _ _ _ _ HZ.out)
                replace hHeld := HSP5.out.cells
                refine hK.out _ _ hHeld (fun hHeld => ?_)
                clear hK K
                refine wpAnyH_take (i := 12) (v := .int .i64 (kk : Int)) rfl (by kernel_rfl) (by kernel_rfl) (by kernel_rfl) (fun _ _ _ h => h) (Or.inl ⟨by rfl, by intro w hSw; obtain ⟨d0, d1, d2, d3, d4, d5⟩ := hSw; go_simp⟩) (by assumption) ?_
                simp only [Act.put, List.getElem_toArray, List.getElem_cons_zero, List.getElem_cons_succ, List.setIfInBounds_toArray, List.set_cons_zero, List.set_cons_succ]
                refine wpAnyH_take (i := 13) (v := .int .i64 ec) rfl (by kernel_rfl) (by kernel_rfl) (by kernel_rfl) (fun _ _ _ h => h) (Or.inl ⟨by rfl, by intro w hSw; obtain ⟨d0, d1, d2, d3, d4, d5⟩ := hSw; go_simp⟩) (by assumption) ?_
                simp only [Act.put, List.getElem_toArray, List.getElem_cons_zero, List.getElem_cons_succ, List.setIfInBounds_toArray, List.set_cons_zero, List.set_cons_succ]
                refine wpAnyH_take (i := 14) (v := .string of) rfl (by kernel_rfl) (by kernel_rfl) (by kernel_rfl) (fun _ _ _ h => h) (Or.inl ⟨by rfl, by intro w hSw; obtain ⟨d0, d1, d2, d3, d4, d5⟩ := hSw; go_simp⟩) (by assumption) ?_
                simp only [Act.put, List.getElem_toArray, List.getElem_cons_zero, List.getElem_cons_succ, List.setIfInBounds_toArray, List.set_cons_zero, List.set_cons_succ]
                refine wpAnyH_done (by kernel_rfl) ?_ _
                go_wp2_with fail
                go_meet
                exact ⟨o2, ap2, np2, cp2, kk, ec, of, g, rfl, rfl, rfl, rfl, HSP5.out, HN5.out⟩
              · have HZ0 := Lib.hid (heap_alloc_new wd (.cells zeroO TOpt))
                have HBA := Lib.hid ((Below.refl wd.heap.size wd).alloc (Nat.le_refl _) (.cells zeroO TOpt))
                have HSA := Lib.hid (HSD.out.below HBA.out)
                have HGE : Hid (B + 2 ≤ wd.heap.size) := Lib.hid HSD.out.sz
                have HOLD := Lib.hid (World.ownsRow.lt HSD.out.own)
                have HAS : Hid ((wd.alloc (.cells zeroO TOpt)).heap.size = wd.heap.size + 1) := Lib.hid (World.size_alloc _ _)
                go_simp
                replace hHeld := HSA.out.cells
                refine hK.out _ _ hHeld (fun hHeld => ?_)
                clear hK K
                generalize wd.alloc (.cells zeroO TOpt) = wa at HZ0 HSA HAS hHeld ⊢
                generalize wd.heap.size = g at HZ0 HGE HOLD HAS ⊢
                refine wpAnyH_ready (rs := [4]) (by kernel_rfl) (by simp) ?_
                refine AllReadyH.cons rfl (fun K hK => ?_) AllReadyH.nil
                go_simp
                refine (HWD.out wa HSA.out).mono ?_
                rintro e w2 ⟨o2, ap2, np2, cp2, kk, ec, of, rfl, hrel2⟩
                have HSP := Lib.hid (SP.mk' HSA.out hrel2)
                have HNEW := Lib.hid hrel2.1.new
                have HLT := Lib.hid hrel2.1.size
                have HBLK := Lib.hid hrel2.1.block
                clear hrel2
                replace hHeld := HSP.out.cells
                have HZ : Hid (w2.heap[g]? = some (.cells zeroO TOpt (0, 0))) := Lib.hid ((HBLK.out g (by have := HAS.out; omega) (fun e => by have := (HOLD.out g e).2; omega)).trans HZ0.out)
                have HNG : Hid (ec = 0 → ∀ k, (Value.slice ap2 np2 cp2).ownBlock = some k → k ≠ g) := Lib.hid fun _ k hk e => by
                  subst e
                  rcases HNEW.out k hk with h | h
                  · have := (HOLD.out k h).2; omega
                  · have := HAS.out; omega
                have HSP4 := HSP
                refine hK.out _ _ hHeld (fun hHeld => ?_)
                clear hK K
                refine wpAnyH_take (i := 5) (v := .tuple #[.agg (fullO o2 (.slice ap2 np2 cp2) (.slice none 0 0)), .int .i64 (kk : Int), .int .i64 ec, .string of]) rfl (by kernel_rfl) (by kernel_rfl) (by kernel_rfl) (fun _ _ _ h => h) (Or.inl ⟨by rfl, by intro w hSw; obtain ⟨d0, d1, d2, d3, d4, d5⟩ := hSw; go_simp⟩) (by assumption) ?_
                simp only [Act.put, List.getElem_toArray, List.getElem_cons_zero, List.getElem_cons_succ, List.setIfInBounds_toArray, List.set_cons_zero, List.set_cons_succ]
                refine wpAnyH_take (i := 6) (v := .agg (fullO o2 (.slice ap2 np2 cp2) (.slice none 0 0))) rfl (by kernel_rfl) (by kernel_rfl) (by kernel_rfl) (fun _ _ _ h => h) (Or.inl ⟨by rfl, by intro w hSw; obtain ⟨d0, d1, d2, d3, d4, d5⟩ := hSw; go_simp⟩) (by assumption) ?_
                simp only [Act.put, List.getElem_toArray, List.getElem_cons_zero, List.getElem_cons_succ, List.setIfInBounds_toArray, List.set_cons_zero, List.set_cons_succ]
                refine wpAnyH_take (i := 7) (v := .int .i64 (kk : Int)) rfl (by kernel_rfl) (by kernel_rfl) (by kernel_rfl) (fun _ _ _ h => h) (Or.inl ⟨by rfl, by intro w hSw; obtain ⟨d0, d1, d2, d3, d4, d5⟩ := hSw; go_simp⟩) (by assumption) ?_
                simp only [Act.put, List.getElem_toArray, List.getElem_cons_zero, List.getElem_cons_succ, List.setIfInBounds_toArray, List.set_cons_zero, List.set_cons_succ]
                refine wpAnyH_take (i := 8) (v := .int .i64 ec) rfl (by kernel_rfl) (by kernel_rfl) (by kernel_rfl) (fun _ _ _ h => h) (Or.inl ⟨by rfl, by intro w hSw; obtain ⟨d0, d1, d2, d3, d4, d5⟩ := hSw; go_simp⟩) (by assumption) ?_
                simp only [Act.put, List.getElem_toArray, List.getElem_cons_zero, List.getElem_cons_succ, List.setIfInBounds_toArray, List.set_cons_zero, List.set_cons_succ]
                refine wpAnyH_take (i := 9) (v := .string of) rfl (by kernel_rfl) (by kernel_rfl) (by kernel_rfl) (fun _ _ _ h => h) (Or.inl ⟨by rfl, by intro w hSw; obtain ⟨d0, d1, d2, d3, d4, d5⟩ := hSw; go_simp⟩) (by assumption) ?_
                simp only [Act.put, List.getElem_toArray, List.getElem_cons_zero, List.getElem_cons_succ, List.setIfInBounds_toArray, List.set_cons_zero, List.set_cons_succ]
                refine wpAnyH_ready (rs := [11]) (by kernel_rfl) (by simp) ?_
                refine AllReadyH.cons rfl (fun K hK => ?_) AllReadyH.nil
                refine wp_store_row TOpt _ _ rfl g (fullO o2 (.slice ap2 np2 cp2) (.slice none 0 0)) rfl rfl TOpt zeroO HZ.out infoO rfl (by kernel_rfl) ?_
                have HSP5 := Lib.hid (HSP4.out.put HGE.out HNG.out (fullO o2 (.slice ap2 np2 cp2) (.slice none 0 0)))
                have HN5 : Hid ((w2.setRow g (fullO o2 (.slice ap2 np2 cp2) (.slice none 0 0))).heap[g]? = some (.cells (fullO o2 (.slice ap2 np2 cp2) (.slice none 0 0)) TOpt (0, 0))) := Lib.hid (setRow_heap _ _ _ _ _ _ HZ.out)
                replace hHeld := HSP5.out.cells
                refine hK.out _ _ hHeld (fun hHeld => ?_)
                clear hK K
                refine wpAnyH_take (i := 12) (v := .int .i64 (kk : Int)) rfl (by kernel_rfl) (by kernel_rfl) (by kernel_rfl) (fun _ _ _ h => h) (Or.inl ⟨by rfl, by intro w hSw; obtain ⟨d0, d1, d2, d3, d4, d5⟩ := hSw; go_simp⟩) (by assumption) ?_
                simp only [Act.put, List.getElem_toArray, List.getElem_cons_zero, List.getElem_cons_succ, List.setIfInBounds_toArray, List.set_cons_zero, List.set_cons_succ]
                refine wpAnyH_take (i := 13) (v := .int .i64 ec) rfl (by kernel_rfl) (by kernel_rfl) (by kernel_rfl) (fun _ _ _ h => h) (Or.inl ⟨by rfl, by intro w hSw; obtain ⟨d0, d1, d2, d3, d4, d5⟩ := hSw; go_simp⟩) (by assumption) ?_
                simp only [Act.put, List.getElem_toArray, List.getElem_cons_zero, List.getElem_cons_succ, List.setIfInBounds_toArray, List.set_cons_zero, List.set_cons_succ]
                refine wpAnyH_take (i := 14) (v := .string of) rfl (by kernel_rfl) (by kernel_rfl) (by kernel_rfl) (fun _ _ _ h => h) (Or.inl ⟨by rfl, by intro w hSw; obtain ⟨d0, d1, d2, d3, d4, d5⟩ := hSw; go_simp⟩) (by assumption) ?_
                simp only [Act.put, List.getElem_toArray, List.getElem_cons_zero, List.getElem_cons_succ, List.setIfInBounds_toArray, List.set_cons_zero, List.set_cons_succ]
                refine wpAnyH_done (by kernel_rfl) ?_ _
                go_wp2_with fail
                go_meet
                exact ⟨o2, ap2, np2, cp2, kk, ec, of, g, rfl, rfl, rfl, rfl, HSP5.out, HN5.out⟩
            case rest =>
              obtain ⟨o2, ap2, np2, cp2, kk, ec, of, g, rfl, rfl, rfl, rfl, hSP, hgb⟩ := hcut
              have HSP := Lib.hid hSP
              have HGB := Lib.hid hgb
              have HREL := Lib.hid hSP.rel
              clear hSP hgb
              by_cases hec : ec = 0
              · have hq : (ec == 0) = true := by simp [hec]
                have HPO : Hid (parF (l.drop (i + kk)) o2 = parF l opt0 ∧ 1 ≤ kk ∧ i + kk ≤ n ∧ o2.parts.length ≤ i + kk) := Lib.hid (by
                  rcases HREL.out with ⟨-, -, c1, c2, c3, c4, c5, c6⟩ | ⟨e, -⟩
                  · have e1 : (word :: l.drop (i + 1)).length = n - i := by rw [← HD.out, List.length_drop, HL.out]
                    refine ⟨?_, c2, by omega, by omega⟩
                    rw [← HP2.out, ← c1, ← HD.out, List.drop_drop]
                  · exact absurd hec e)
                have HNX := Lib.hid (HSP.out.next hec)
                have hkk2 : i + kk ≤ n := HPO.out.2.2.1
                have hkk1 : 1 ≤ kk := HPO.out.2.1
                clear hec HREL
                go_wp2_with (first | (refine wpList_load_row rfl TOpt (.tmp 7) rfl g rfl TOpt _ (0, 0) _ HGB.out Tryd.underlying28 rfl infoO ?_) | (refine wpList_store_row rfl TOpt (.tmp 5) (.tmp 45) rfl rfl (B + 1) TOpt _ _ rfl rfl HSP.out.box rfl infoO (by simp [Value.oneCell']) ?_))
                go_roundw
                case rel => exact ⟨i + kk, o2, _, HPO.out.2.2.1, by go_num, HNX.out, HPO.out.1, HPO.out.2.2.2⟩
                case measure =>
                  have := HPO.out
                  simp only [intOf]
                  omega
              · have hq : (ec == 0) = false := by simp [hec]
                have HR : Hid (parF l opt0 = (opt0, ec, of)) := Lib.hid (by
                  rcases HREL.out with ⟨e, -⟩ | ⟨-, e⟩
                  · exact absurd e hec
                  · rw [← HP2.out, e])
                clear hec HREL
                go_wp2_with (refine wpList_store_row rfl TOpt (.tmp 2) (.tmp 42) rfl rfl B TOpt _ zeroO rfl rfl HSP.out.res rfl infoO (by decide) ?_)
                rw [HR.out]
                exact ret_box3 (p := 2) (q := 3) (r := 4) rfl rfl (setRow_heap _ _ _ _ _ _ HSP.out.res) Tryd.underlying28 rfl infoO rfl (HSP.out.zero ec of)
  case rest =>
    clear HS0
    obtain ⟨i, o, pv, rfl, hi, hS, hpar, hpl, hend⟩ := hcut
    obtain ⟨ap, cp, hpv⟩ := own_shape hS.own
    subst hpv
    have HS := Lib.hid hS
    have HP := Lib.hid hpar
    have HE := Lib.hid hend
    clear hS hpar hend
    go_upto_region 9 with fail
    go_cut [59] (fun v wx => v = .bool (decide (i < n ∧ l[i]?.getD ByteArray.empty = str [45, 45])) ∧ wx = wc)
    case first =>
      by_cases hkn : i = n
      · have hkd : decide (i < n) = false := by simp; omega
        go_wp2_with fail
        go_meet
        exact ⟨by rw [decide_eq_false (fun h => by have := h.1; omega)], rfl⟩
      · have hkd : decide (i < n) = true := by simp; omega
        have hkl : i < n := by omega
        obtain ⟨ab, ao, rfl, hrd⟩ := HB.out.read i hkl
        obtain ⟨word, hwd⟩ : ∃ x, l[i]?.getD ByteArray.empty = x := ⟨_, rfl⟩
        have hcx : wc.cell? ⟨ab, ao + i, none⟩ = some (.string word) := by
          have := hrd i hkl
          rw [hwd] at this
          have hbl : Below w.heap.size w wc := by rw [HBB.out]; exact HS.out.bel
          rw [hbl.cell (World.block_lt_of_cell? w _ this)]
          exact this
        have HWE := Lib.hid hwd
        have hqd := str_eqd word (str [45, 45])
        rw [dash_list] at hqd
        clear hwd hrd
        by_cases hdd : word = str [45, 45]
        · have hq : (ByteArray.toList word == [45, 45]) = true := by rw [hqd]; exact decide_eq_true hdd
          have HDD := Lib.hid hdd
          clear hqd hdd
          go_wp2_with fail
          go_meet
          exact ⟨by rw [HWE.out, decide_eq_true ⟨hkl, HDD.out⟩], rfl⟩
        · have hq : (ByteArray.toList word == [45, 45]) = false := by rw [hqd]; exact decide_eq_false hdd
          have HDD := Lib.hid hdd
          clear hqd hdd
          go_wp2_with fail
          go_meet
          exact ⟨by rw [HWE.out, decide_eq_false (fun h => HDD.out h.2)], rfl⟩
    case rest =>
    obtain ⟨rfl, rfl⟩ := hcut
    have HJ : Hid (∃ j : Nat, (j = i + 1 ∧ (i < n ∧ l[i]?.getD ByteArray.empty = str [45, 45]) ∨ j = i ∧ ¬ (i < n ∧ l[i]?.getD ByteArray.empty = str [45, 45])) ∧ j ≤ n ∧ finish (l.drop j) o = parF l opt0) := Lib.hid (by
      by_cases hC : i < n ∧ l[i]?.getD ByteArray.empty = str [45, 45]
      · refine ⟨i + 1, .inl ⟨rfl, hC⟩, by omega, ?_⟩
        have := HP.out
        rw [drop_at' l i (by have := HL.out; omega), hC.2, par_end] at this
        exact this
      · refine ⟨i, .inr ⟨rfl, hC⟩, hi, ?_⟩
        have := HP.out
        by_cases hkn : i = n
        · rw [List.drop_eq_nil_of_le (by have := HL.out; omega), par_nil] at this
          rw [List.drop_eq_nil_of_le (by have := HL.out; omega)]
          exact this
        · rcases HE.out with h | h | h
          · exact absurd h hkn
          · rw [drop_at' l i (by have := HL.out; omega), par_not _ _ _ h] at this
            rw [drop_at' l i (by have := HL.out; omega)]
            exact this
          · exact absurd ⟨by omega, h⟩ hC)
    go_upto_if 59 with fail
    go_cut [6] (fun v wx => ∃ j : Nat, v = .int .i64 j ∧ j ≤ n ∧ i ≤ j ∧ wx = wc ∧ finish (l.drop j) o = parF l opt0)
    case first =>
      obtain ⟨j, hj1, hj2, hj3⟩ := HJ.out
      have HF := Lib.hid hj3
      clear hj3 HJ
      rcases hj1 with ⟨rfl, hC⟩ | ⟨rfl, hC⟩
      · rw [decide_eq_true hC]
        clear hC
        go_wp2_with fail
        go_meet
        exact ⟨i + 1, by go_num, hj2, by omega, rfl, HF.out⟩
      · rw [decide_eq_false hC]
        clear hC
        go_wp2_with fail
        go_meet
        exact ⟨_, rfl, hj2, Nat.le_refl _, rfl, HF.out⟩
    case rest =>
      clear HP HE hi HJ
      obtain ⟨j, rfl, hj, hij, rfl, hfin⟩ := hcut
      have HF := Lib.hid hfin
      clear hfin
      have c4 : wc.cell? ⟨B + 1, 4, none⟩ = some (.slice ap o.parts.length cp) := HS.out.cell 4
      have c4f : wc.frozen? ⟨B + 1, 4, none⟩ = false := HS.out.frozen 4
      go_upto_if 65 with fail
      go_cut [6] (fun v wx => ∃ (j2 : Nat) (o2 : Opt) (pv2 : Value), v = .int .i64 j2 ∧ j2 ≤ n ∧ SO w wx B o2 pv2 ∧ parF l opt0 = ({ o2 with files := l.drop j2 }, 0, ByteArray.empty))
      case first =>
        by_cases hp0 : o.parts.length = 0
        · have hpe := List.eq_nil_of_length_eq_zero hp0
          have hpd : ((o.parts.length : Int) == 0) = true := by simp [hp0]
          by_cases hkn : j = n
          · have hke : ((j : Int) == (n : Int)) = true := by simp [hkn]
            have HR : Hid (parF l opt0 = (opt0, 91, ByteArray.empty)) := Lib.hid (by rw [← HF.out, List.drop_eq_nil_of_le (by have := HL.out; omega)]; exact fin_none o hpe)
            clear hp0 hpe
            go_wp2_with (refine wpList_store_row rfl TOpt (.tmp 2) (.tmp 70) rfl rfl B TOpt _ zeroO rfl rfl HS.out.res rfl infoO (by decide) ?_)
            rw [HR.out]
            try rw [Exit.noGoto_ret]
            exact ret_box3 (p := 2) (q := 3) (r := 4) rfl rfl HS.out.zero_res Tryd.underlying28 rfl infoO rfl (HS.out.zero 91 ByteArray.empty)
          · have hke : ((j : Int) == (n : Int)) = false := by simp; omega
            obtain ⟨ab, ao, rfl, hrd⟩ := HB.out.read j (by omega)
            obtain ⟨x, hx⟩ : ∃ x, l[j]?.getD ByteArray.empty = x := ⟨_, rfl⟩
            have HR : Hid (parF l opt0 = ({ o with parts := [(false, x)], files := l.drop (j + 1) }, 0, ByteArray.empty)) := Lib.hid (by rw [← HF.out, drop_at' l j (by have := HL.out; omega), hx]; exact fin_one _ _ _ hpe)
            have hcx : wc.cell? ⟨ab, ao + j, none⟩ = some (.string x) := by
              have := hrd j (by omega)
              rw [hx] at this
              have hbl : Below w.heap.size w wc := by rw [HBB.out]; exact HS.out.bel
              rw [hbl.cell (World.block_lt_of_cell? w _ this)]
              exact this
            obtain ⟨hO, f1, f2⟩ := HS.out.one x
            have HO := Lib.hid hO
            clear hx hO hrd hp0 hpe
            go_wp2_with fail
            go_meet
            exact ⟨j + 1, { o with parts := [(false, x)] }, _, by go_num, by omega, HO.out, HR.out⟩
        · have hpd : ((o.parts.length : Int) == 0) = false := by simp [hp0]
          have HR : Hid (parF l opt0 = ({ o with files := l.drop j }, 0, ByteArray.empty)) := Lib.hid (by rw [← HF.out]; exact fin_many _ _ (fun e => hp0 (by rw [e]; rfl)))
          clear hp0
          go_wp2_with fail
          go_meet
          exact ⟨j, o, _, rfl, hj, HS.out, HR.out⟩
      case rest =>
        clear HS HF hj hij
        obtain ⟨j, o, pv, rfl, hj, hS, hres⟩ := hcut
        have HS := Lib.hid hS
        have HR := Lib.hid hres
        clear hS hres
        go_wp2_with fail
        have HSF0 : Hid (SF w wc B o pv (.slice none 0 0) ((l.take j).drop j)) := Lib.hid (by
          rw [List.drop_eq_nil_of_le (by rw [List.length_take]; omega)]
          have := HS.out
          exact ⟨this.hB, this.box, this.res, this.own, OwnT.nil _ _, fun k h => by simp [Value.ownBlock] at h, this.bel, this.sz⟩)
        clear HS
        go_loopw [6] (fun v wx => ∃ (k : Nat) (fv : Value), v = .int .i64 k ∧ j ≤ k ∧ k ≤ n ∧ SF w wx B o pv fv ((l.take k).drop j)) (fun v _ => n - (intOf v).toNat)
        case atStart => exact ⟨j, _, rfl, Nat.le_refl _, hj, HSF0.out⟩
        case round =>
          clear HSF0
          obtain ⟨k, fv, rfl, hjk, hk, hSF⟩ := hrel
          have HSF := Lib.hid hSF
          clear hSF
          by_cases hkn : k < n
          · have hkd : decide (k < n) = true := by simp; omega
            obtain ⟨ab, ao, rfl, hrd⟩ := HB.out.read k hkn
            obtain ⟨x, hx⟩ : ∃ x, l[k]?.getD ByteArray.empty = x := ⟨_, rfl⟩
            have hcx : wr.cell? ⟨ab, ao + k, none⟩ = some (.string x) := by
              have := hrd k hkn
              rw [hx] at this
              have hbl : Below w.heap.size w wr := by rw [HBB.out]; exact HSF.out.bel
              rw [hbl.cell (World.block_lt_of_cell? w _ this)]
              exact this
            have HXW : Hid (w.cell? ⟨ab, ao + k, none⟩ = some (.string x)) := Lib.hid (by
              have := hrd k hkn
              rwa [hx] at this)
            have HFX : Hid ((l.take k).drop j ++ [x] = (l.take (k + 1)).drop j) := Lib.hid (by
              rw [take_snocS ByteArray.empty l k (by rw [HL.out]; exact hkn), hx, List.drop_append_of_le_length (by rw [List.length_take]; have := HL.out; omega)])
            obtain ⟨fs, hfs⟩ : ∃ fs, (l.take k).drop j = fs := ⟨_, rfl⟩
            have hfl : fs.length + 1 ≤ 8796093022208 := by rw [← hfs, List.length_drop, List.length_take]; omega
            rw [hfs] at HSF HFX
            have i0 : (0 : Int) ≤ (k : Int) := by omega
            have i1 : (k : Int) < (n : Int) := by omega
            clear hrd hx hfs
            go_upto_region 17 with fail
            have hst : wr.drew.cell? ⟨ab, ao + k, none⟩ = some (.string x) := hcx
            refine wp_region_held_drew (S := fun w' => w'.cell? ⟨ab, ao + k, none⟩ = some (.string x)) (by kernel_rfl) hst (fun hHeld => ?_)
            clear hst
            have HFD : Hid (SF w wr.drew B o pv fv fs) := Lib.hid (HSF.out.below (below_drewN (Below.refl _ wr) 1))
            generalize wr.drew = wd at hHeld HFD ⊢
            have c5 : wd.cell? ⟨B + 1, 5, none⟩ = some fv := HFD.out.cell
            have HBS : Hid (B + 2 ≤ wd.heap.size) := Lib.hid HFD.out.sz
            have HCY : Hid (∀ w', Below wd.heap.size wd w' → w'.cell? ⟨ab, ao + k, none⟩ = some (.string x)) := Lib.hid fun w' hb => by rw [hb.cell (World.block_lt_of_cell? wd _ hHeld)]; exact hHeld
            refine wpAnyH_take (i := 0) (v := .pointer (some ⟨B + 1, 5, none⟩)) rfl (by kernel_rfl) (by kernel_rfl) (by kernel_rfl) (fun _ _ _ h => h) (Or.inl ⟨by rfl, by intro w hSw; (try dsimp only at hSw); go_simp⟩) (by assumption) ?_
            simp only [Act.put, List.getElem_toArray, List.getElem_cons_zero, List.setIfInBounds_toArray, List.set_cons_zero, List.set_cons_succ]
            refine wpAnyH_take (i := 2) (v := .slice (some ⟨ab, ao, none⟩) n c) rfl (by kernel_rfl) (by kernel_rfl) (by kernel_rfl) (fun _ _ _ h => h) (Or.inl ⟨by rfl, by intro w hSw; (try dsimp only at hSw); go_simp⟩) (by assumption) ?_
            simp only [Act.put, List.getElem_toArray, List.getElem_cons_zero, List.getElem_cons_succ, List.setIfInBounds_toArray, List.set_cons_zero, List.set_cons_succ]
            refine wpAnyH_take (i := 3) (v := .int .i64 (k : Int)) rfl (by kernel_rfl) (by kernel_rfl) (by kernel_rfl) (fun _ _ _ h => h) (Or.inl ⟨by rfl, by intro w hSw; (try dsimp only at hSw); go_simp⟩) (by assumption) ?_
            simp only [Act.put, List.getElem_toArray, List.getElem_cons_zero, List.getElem_cons_succ, List.setIfInBounds_toArray, List.set_cons_zero, List.set_cons_succ]
            refine wpAnyH_take (i := 4) (v := .pointer (some ⟨ab, ao + k, none⟩)) rfl (by kernel_rfl) (by kernel_rfl) (by kernel_rfl) (fun _ _ _ h => h) (Or.inl ⟨by rfl, by intro w hSw; (try dsimp only at hSw); go_simp⟩) (by assumption) ?_
            simp only [Act.put, List.getElem_toArray, List.getElem_cons_zero, List.getElem_cons_succ, List.setIfInBounds_toArray, List.set_cons_zero, List.set_cons_succ]
            refine wpAnyH_take (i := 5) (v := .string x) rfl (by kernel_rfl) (by kernel_rfl) (by kernel_rfl) (fun _ _ _ h => h) (Or.inl ⟨by rfl, by intro w hSw; (try dsimp only at hSw); go_simp⟩) (by assumption) ?_
            simp only [Act.put, List.getElem_toArray, List.getElem_cons_zero, List.getElem_cons_succ, List.setIfInBounds_toArray, List.set_cons_zero, List.set_cons_succ]
            refine wpAnyH_ready (rs := [1, 6]) (by kernel_rfl) (by simp) ?_
            refine AllReadyH.cons rfl (fun K hK => ?_) (AllReadyH.cons rfl (fun K hK => ?_) AllReadyH.nil)
            · go_simp
              refine hK.out _ _ hHeld (fun hHeld => ?_)
              clear hK K
              refine wpAnyH_ready (rs := [6]) (by kernel_rfl) (by simp) ?_
              refine AllReadyH.cons rfl (fun K hK => ?_) AllReadyH.nil
              have HBA := Lib.hid ((Below.refl wd.heap.size wd).alloc (Nat.le_refl _) (.cells #[.string x] 9))
              go_simp
              replace hHeld := HCY.out _ HBA.out
              refine hK.out _ _ hHeld (fun hHeld => ?_)
              clear hK K
              refine wpAnyH_ready (rs := [7]) (by kernel_rfl) (by simp) ?_
              refine AllReadyH.cons rfl (fun K hK => ?_) AllReadyH.nil
              refine wp_appT1 (w := wd) (.tmp 85) (.tmp 90) rfl (B + 2) fv fs x rfl HFD.out.ownf rfl hfl HBS.out ?_
              intro fv2 w6 ho hpp
              obtain ⟨af2, cf2, hfv2⟩ := own_shape ho
              generalize List.length _ = nf2 at hfv2
              subst hfv2
              have HNF := Lib.hid (HFD.out.push ho hpp)
              have HC6 : Hid (w6.cell? ⟨ab, ao + k, none⟩ = some (.string x) ∧ (w6.setCell ⟨B + 1, 5, none⟩ (.slice af2 nf2 cf2)).cell? ⟨ab, ao + k, none⟩ = some (.string x)) := Lib.hid ⟨by rw [(hpp.bel _ _ HFD.out.bel (by omega)).cell (by rw [← HBB.out]; exact World.block_lt_of_cell? w _ HXW.out)]; exact HXW.out, by rw [HNF.out.1.bel.cell (by rw [← HBB.out]; exact World.block_lt_of_cell? w _ HXW.out)]; exact HXW.out⟩
              have c6 : w6.cell? ⟨B + 1, 5, none⟩ = some fv := HNF.out.2.1
              have f6 : w6.frozen? ⟨B + 1, 5, none⟩ = false := HNF.out.2.2
              replace hHeld := HC6.out.1
              refine hK.out _ _ hHeld (fun hHeld => ?_)
              clear hK K
              refine wpAnyH_take (i := 8) (v := .pointer (some ⟨B + 1, 5, none⟩)) rfl (by kernel_rfl) (by kernel_rfl) (by kernel_rfl) (fun _ _ _ h => h) (Or.inl ⟨by rfl, by intro w hSw; (try dsimp only at hSw); go_simp⟩) (by assumption) ?_
              simp only [Act.put, List.getElem_toArray, List.getElem_cons_zero, List.getElem_cons_succ, List.setIfInBounds_toArray, List.set_cons_zero, List.set_cons_succ]
              refine wpAnyH_ready (rs := [9]) (by kernel_rfl) (by simp) ?_
              refine AllReadyH.cons rfl (fun K hK => ?_) AllReadyH.nil
              go_simp
              replace hHeld := HC6.out.2
              refine hK.out _ _ hHeld (fun hHeld => ?_)
              clear hK K
              refine wpAnyH_done (by kernel_rfl) ?_ _
              clear c6 f6 c5
              go_wp2_with fail
              go_roundw
              case rel => exact ⟨k + 1, _, by go_num, by omega, by omega, by rw [← HFX.out]; exact HNF.out.1⟩
              case measure => simp [intOf]; omega
            · have HBA := Lib.hid ((Below.refl wd.heap.size wd).alloc (Nat.le_refl _) (.cells #[.string x] 9))
              go_simp
              replace hHeld := HCY.out _ HBA.out
              refine hK.out _ _ hHeld (fun hHeld => ?_)
              clear hK K
              have c5a : (wd.alloc (.cells #[.string x] 9)).cell? ⟨B + 1, 5, none⟩ = some fv := by rw [HBA.out.cell (show B + 1 < wd.heap.size by have := HBS.out; omega)]; exact c5
              refine wpAnyH_ready (rs := [1]) (by kernel_rfl) (by simp) ?_
              refine AllReadyH.cons rfl (fun K hK => ?_) AllReadyH.nil
              go_simp
              refine hK.out _ _ hHeld (fun hHeld => ?_)
              clear hK K
              clear c5a
              refine wpAnyH_ready (rs := [7]) (by kernel_rfl) (by simp) ?_
              refine AllReadyH.cons rfl (fun K hK => ?_) AllReadyH.nil
              refine wp_appT1 (w := wd) (.tmp 85) (.tmp 90) rfl (B + 2) fv fs x rfl HFD.out.ownf rfl hfl HBS.out ?_
              intro fv2 w6 ho hpp
              obtain ⟨af2, cf2, hfv2⟩ := own_shape ho
              generalize List.length _ = nf2 at hfv2
              subst hfv2
              have HNF := Lib.hid (HFD.out.push ho hpp)
              have HC6 : Hid (w6.cell? ⟨ab, ao + k, none⟩ = some (.string x) ∧ (w6.setCell ⟨B + 1, 5, none⟩ (.slice af2 nf2 cf2)).cell? ⟨ab, ao + k, none⟩ = some (.string x)) := Lib.hid ⟨by rw [(hpp.bel _ _ HFD.out.bel (by omega)).cell (by rw [← HBB.out]; exact World.block_lt_of_cell? w _ HXW.out)]; exact HXW.out, by rw [HNF.out.1.bel.cell (by rw [← HBB.out]; exact World.block_lt_of_cell? w _ HXW.out)]; exact HXW.out⟩
              have c6 : w6.cell? ⟨B + 1, 5, none⟩ = some fv := HNF.out.2.1
              have f6 : w6.frozen? ⟨B + 1, 5, none⟩ = false := HNF.out.2.2
              replace hHeld := HC6.out.1
              refine hK.out _ _ hHeld (fun hHeld => ?_)
              clear hK K
              refine wpAnyH_take (i := 8) (v := .pointer (some ⟨B + 1, 5, none⟩)) rfl (by kernel_rfl) (by kernel_rfl) (by kernel_rfl) (fun _ _ _ h => h) (Or.inl ⟨by rfl, by intro w hSw; (try dsimp only at hSw); go_simp⟩) (by assumption) ?_
              simp only [Act.put, List.getElem_toArray, List.getElem_cons_zero, List.getElem_cons_succ, List.setIfInBounds_toArray, List.set_cons_zero, List.set_cons_succ]
              refine wpAnyH_ready (rs := [9]) (by kernel_rfl) (by simp) ?_
              refine AllReadyH.cons rfl (fun K hK => ?_) AllReadyH.nil
              go_simp
              replace hHeld := HC6.out.2
              refine hK.out _ _ hHeld (fun hHeld => ?_)
              clear hK K
              refine wpAnyH_done (by kernel_rfl) ?_ _
              clear c6 f6 c5
              go_wp2_with fail
              go_roundw
              case rel => exact ⟨k + 1, _, by go_num, by omega, by omega, by rw [← HFX.out]; exact HNF.out.1⟩
              case measure => simp [intOf]; omega
          · have hkd : decide (k < n) = false := by simp; omega
            have hke : k = n := by omega
            have HSD : Hid (SD w wr B { o with files := l.drop j } pv fv) := Lib.hid (by
              have := HSF.out.done
              rw [hke, List.take_of_length_le (Nat.le_of_eq HL.out)] at this
              exact this)
            clear hke hkn HSF
            obtain ⟨pa, pc, hpv⟩ := own_shape HSD.out.own
            obtain ⟨fa, fc, hfv⟩ := own_shape HSD.out.ownf
            generalize List.length _ = np2 at hpv
            generalize List.length _ = nf2 at hfv
            subst hpv hfv
            go_wp2_with (first | (refine wpList_load_row rfl TOpt (.tmp 5) rfl (B + 1) rfl TOpt _ (0, 0) _ HSD.out.box Tryd.underlying28 rfl infoO ?_) | (refine wpList_store_row rfl TOpt (.tmp 2) (.tmp 95) rfl rfl B TOpt _ _ rfl rfl HSD.out.res rfl infoO (by simp [Value.oneCell']) ?_))
            rw [HR.out]
            try rw [Exit.noGoto_ret]
            exact ret_box3 (p := 2) (q := 3) (r := 4) rfl rfl HSD.out.done_res Tryd.underlying28 rfl infoO rfl HSD.out.done
end Go.Proofs.YtgepjjpcokbpjaaDoor
