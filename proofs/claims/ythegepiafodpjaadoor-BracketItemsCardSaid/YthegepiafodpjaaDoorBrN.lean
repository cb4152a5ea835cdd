/-
  bracket: name.
-/
import Derived.Test.YthegepiafodpjaaDoorBrK
import Derived.IntWalk
import Derived.Test.YthegepiafodpjaaDoorApp
namespace Go.Proofs.YthegepiafodpjaaDoor
open Go.RowKit

def thC (set : List Nat) (fin : Bool) (v : Int) (next : Nat) : Array Value := row64 set ++ #[.bool fin, .int .u8 v, .int .i64 (next : Int)]
def faC (e p : Nat) : Array Value := #[.int .i64 (e : Int), .int .i64 (p : Int)]
def trT : TR → Array Value
  | .ok set fin v next => thC set fin v next
  | .bad _ _ => thC noneL false 0 0
def trF : TR → Array Value
  | .ok _ _ _ _ => faC 0 0
  | .bad e p => faC e p
def trV (r : TR) : Value := .tuple #[.agg (trT r), .agg (trF r)]
def ThPost (w : World) (r : TR) (e : Ending) (w' : World) : Prop := e = .returned (trV r) ∧ Below w.heap.size w w'
abbrev TTh : TypeId := 150
abbrev TFa : TypeId := 83
/-- A reader, and the boxes of two results. -/
structure NB (w0 w : World) (g g4 g5 : Nat) (a : Option Addr) (n c op : Nat) (l : List Mk) : Prop where
  rd : Rd w0 w g a n c op l
  h4 : w.heap[g4]? = some (.cells (thC noneL false 0 0) TTh (0, 0))
  h5 : w.heap[g5]? = some (.cells (faC 0 0) TFa (0, 0))
  l4 : w0.heap.size ≤ g4
  l5 : w0.heap.size ≤ g5
  ne : g4 ≠ g5
  lg : g < g5 + 1
  lg4 : g4 < g5 + 1
theorem heap_b {w w' : World} {g : Nat} {o : Obj} (hb : Below w.heap.size w w') (h : w.heap[g]? = some o) : w'.heap[g]? = some o := (hb.block g (Array.getElem?_eq_some_iff.1 h).1).trans h
section
variable {w0 w w' : World} {g g4 g5 : Nat} {a : Option Addr} {n c op : Nat} {l : List Mk}
theorem NB.below (h : NB w0 w g g4 g5 a n c op l) (hb : Below w.heap.size w w') : NB w0 w' g g4 g5 a n c op l :=
  { h with rd := h.rd.below hb, h4 := heap_b hb h.h4, h5 := heap_b hb h.h5 }
theorem NB.drewN (h : NB w0 w g g4 g5 a n c op l) (k : Nat) : NB w0 (w.drewN k) g g4 g5 a n c op l := h.below (below_drewN (Below.refl _ _) k)
abbrev zTh : Array Value := #[.int .u64 0, .int .u64 0, .int .u64 0, .int .u64 0, .bool false, .int .u8 0, .int .i64 0]
abbrev zFa : Array Value := #[.int .i64 0, .int .i64 0]
theorem zTh_is : thC noneL false 0 0 = zTh := rfl
theorem zFa_is : faC 0 0 = zFa := rfl
theorem NB.new {w : World} (hs : SM w (.slice a n c) l) (hw : BrW w) : ∃ w1 g g4 g5, (((w.alloc (.cells #[.slice a n c, .int .i64 (op : Int)] 80)).alloc (.cells zTh TTh)).alloc (.cells zFa TFa)) = w1 ∧ w.heap.size = g ∧ w.heap.size + 1 = g4 ∧ w.heap.size + 1 + 1 = g5 ∧ NB w w1 g g4 g5 a n c op l := by
  refine ⟨_, _, _, _, rfl, rfl, rfl, rfl, ?_⟩
  rw [← zTh_is, ← zFa_is]
  have h1 := Rd.new (op := op) hs hw
  have e1 : (w.alloc (.cells #[.slice a n c, .int .i64 (op : Int)] 80)).heap.size = w.heap.size + 1 := by simp
  generalize w.alloc (.cells #[.slice a n c, .int .i64 (op : Int)] 80) = w1 at h1 e1 ⊢
  have b2 := box1 w1 (.cells (thC noneL false 0 0) TTh)
  have n2 := heap_alloc_new w1 (.cells (thC noneL false 0 0) TTh)
  have e2 : (w1.alloc (.cells (thC noneL false 0 0) TTh)).heap.size = w.heap.size + 2 := by rw [World.size_alloc, e1]
  rw [e1] at n2
  have h2 := h1.below b2
  generalize w1.alloc (.cells (thC noneL false 0 0) TTh) = w2 at h2 e2 n2 ⊢
  have b3 := box1 w2 (.cells (faC 0 0) TFa)
  have n3 := heap_alloc_new w2 (.cells (faC 0 0) TFa)
  rw [e2] at n3
  exact ⟨h2.below b3, heap_b b3 n2, n3, by omega, by omega, by omega, by omega, by omega⟩
theorem NB.keep (h : NB w0 w g g4 g5 a n c op l) (hb : Below (g5 + 1) w w') (hbel : Below w0.heap.size w0 w') : NB w0 w' g g4 g5 a n c op l :=
  { h with
    rd := { h.rd with bel := hbel, c0 := by rw [hb.cell (p := ⟨g, 0, none⟩) h.lg]; exact h.rd.c0, c1 := by rw [hb.cell (p := ⟨g, 1, none⟩) h.lg]; exact h.rd.c1 }
    h4 := (hb.block g4 h.lg4).trans h.h4
    h5 := (hb.block g5 (by omega)).trans h.h5 }
/-- Both results are stored. -/
theorem NB.done (h : NB w0 w g g4 g5 a n c op l) (cs cf : Array Value) : Below w0.heap.size w0 ((w.setRow g4 cs).setRow g5 cf) ∧ ((w.setRow g4 cs).setRow g5 cf).heap[g4]? = some (.cells cs TTh (0, 0)) ∧ ((w.setRow g4 cs).setRow g5 cf).heap[g5]? = some (.cells cf TFa (0, 0)) ∧ (w.setRow g4 cs).heap[g5]? = some (.cells (faC 0 0) TFa (0, 0)) := by
  have h5 : (w.setRow g4 cs).heap[g5]? = some (.cells (faC 0 0) TFa (0, 0)) := by rw [_root_.Go.setRow_other w g4 g5 cs (Ne.symm h.ne)]; exact h.h5
  refine ⟨below_setRow (below_setRow h.rd.bel h.l4 cs) h.l5 cf, ?_, setRow_heap _ g5 _ _ TFa _ h5, h5⟩
  rw [_root_.Go.setRow_other _ g5 g4 cf h.ne]
  exact setRow_heap w g4 _ _ TTh _ h.h4
end
/-- Two results, each in a box. -/
theorem ret_two {P : Program} {fn : Func} {p q : Tmp} {ty tz : TypeId} (h : fn.results = #[.cell p ty, .cell q tz]) {R : Ending → World → Prop} {a : Act} {w : World} {g g2 : Nat} {t t2 : TypeId} {cs cf : Array Value} {d d2 : TypeDesc}
    (hp : a.tmps.getD p undef = .pointer (some ⟨g, 0, none⟩)) (hg : w.heap[g]? = some (.cells cs t (0, 0))) (hu : P.underlying ty = some d) (hd : (match d with | .struct _ | .array _ _ => true | _ => false) = true) (hi : (P.info? ty).map (·.size) = some cs.size)
    (hq : a.tmps.getD q undef = .pointer (some ⟨g2, 0, none⟩)) (hg2 : w.heap[g2]? = some (.cells cf t2 (0, 0))) (hu2 : P.underlying tz = some d2) (hd2 : (match d2 with | .struct _ | .array _ _ => true | _ => false) = true) (hi2 : (P.info? tz).map (·.size) = some cf.size)
    (hdef : a.defers = []) (hR : R (.returned (.tuple #[.agg cs, .agg cf])) w) : bodyPost P fn R .ret a w := by
  have hp' : a.tmps[p]?.getD undef = .pointer (some ⟨g, 0, none⟩) := by simpa using hp
  have hq' : a.tmps[q]?.getD undef = .pointer (some ⟨g2, 0, none⟩) := by simpa using hq
  refine bodyPost_ret (v := .tuple #[.agg cs, .agg cf]) ?_ hdef hR
  simp [results, h, hp', hq', asAddr, run_loadVar_row w g t ty cs (0, 0) d hg hu hd hi, run_loadVar_row w g2 t2 tz cf (0, 0) d2 hg2 hu2 hd2 hi2]
theorem infoTh : (Tryd.prog.info? TTh).map (·.size) = some 7 := by kernel_rfl
theorem infoFa : (Tryd.prog.info? TFa).map (·.size) = some 2 := by kernel_rfl
theorem thC_size (set : List Nat) (fin : Bool) (v : Int) (next : Nat) (h : set.length = 4) : (thC set fin v next).size = 7 := by unfold thC; rw [Array.size_append, row64_size, h]; rfl
theorem thC_one (set : List Nat) (fin : Bool) (v : Int) (next : Nat) : ∀ u ∈ (thC set fin v next).toList, u.oneCell' = true := by
  intro u hu
  unfold thC row64 at hu
  simp only [Array.toList_append, List.mem_append, List.mem_map, List.mem_cons, List.not_mem_nil, or_false] at hu
  rcases hu with ⟨x, _, rfl⟩ | rfl | rfl | rfl <;> rfl
theorem faC_one (e p : Nat) : ∀ u ∈ (faC e p).toList, u.oneCell' = true := by
  intro u hu
  simp only [faC, List.mem_cons, List.not_mem_nil, or_false] at hu
  rcases hu with rfl | rfl <;> rfl
theorem run_strI (w : World) (a : Option Addr) (n c : Nat) (l : List Int) (h : SB w (.slice a n c) l) : (convert 91 9 (.slice a n c)).run Tryd.prog w = .ok (.string (strI l)) w := by
  cases a with
  | none =>
    have := h.ofNone
    subst this
    obtain ⟨hl, _⟩ := h.len
    simp only [List.length_nil] at hl
    subst hl
    exact run_convert_bytes_nil w 91 5 Tryd.underlying91 Tryd.underlying5 0 c 9 Tryd.underlying9
  | some ad =>
    obtain ⟨hl, hn⟩ := h.news
    have hlc := run_loadCells_list (P := Tryd.prog) w ad (l.map (Value.int .u8)) hn
    rw [List.length_map, hl] at hlc
    rw [run_convert_bytes_string w 91 9 5 _ n c Tryd.underlying91 Tryd.underlying5 Tryd.underlying9, run_bytesToString w ad n c l hlc, foldl_push_bytes]
    simp [strI, ByteArray.empty, ByteArray.emptyWithCapacity]
    rfl

theorem isB_snoc4 {t : List Int} {x : Int} (h : IsB t) (h0 : 0 ≤ x) (h1 : x ≤ 255) : IsB (t ++ [x]) := fun i => by
  by_cases hi : i < t.length
  · rw [List.getElem?_append_left hi]; exact h i
  · rw [List.getElem?_append_right (by omega)]
    by_cases e : i - t.length = 0
    · rw [e]; simpa using ⟨h0, h1⟩
    · rw [List.getElem?_eq_none (by simp; omega)]; simp
/-- The loop of name: so far text. -/
structure NmL (w wr : World) (g g4 g5 : Nat) (a : Option Addr) (n c op : Nat) (l : List Mk) (i f k : Nat) (tv : Value) (text : List Int) : Prop where
  nb : NB w wr g g4 g5 a n c op l
  own : OwnB wr (g5 + 1) tv text
  sz : g5 + 1 ≤ wr.heap.size
  isb : IsB text
  len : text.length ≤ k
  eq : nameM l op i (l.length + 1) (i + 2) [] = nameM l op i f k text
  fk : n < f + k
theorem NmL.below {w wr w' : World} {g g4 g5 : Nat} {a : Option Addr} {n c op : Nat} {l : List Mk} {i f k : Nat} {tv : Value} {text : List Int} (h : NmL w wr g g4 g5 a n c op l i f k tv text) (hb : Below wr.heap.size wr w') : NmL w w' g g4 g5 a n c op l i f k tv text :=
  { h with nb := h.nb.below hb, own := h.own.below hb, sz := Nat.le_trans h.sz hb.size }
def BotP (w wx : World) (g g4 g5 : Nat) (a : Option Addr) (n c op : Nat) (l : List Mk) (i f k : Nat) (tv : Value) (text : List Int) (b : Bool) (v : Value) : Prop := v = .bool b ∧ NmL w wx g g4 g5 a n c op l i f k tv text
set_option maxHeartbeats 2000000 in
set_option maxRecDepth 100000 in
theorem name_any (w : World) (hw : BrW w) (a : Option Addr) (n c op i : Nat) (l : List Mk) (h : SM w (.slice a n c) l) (hi : i < n) :
    Calls Tryd.prog 79 #[rdV a n c op, .int .i64 (i : Int)] w (ThPost w (nameM l op i (l.length + 1) (i + 2) [])) := by
  obtain ⟨hl, hn⟩ := h.len
  obtain ⟨w1, g, g4, g5, e1, e2, e3, e4, hN⟩ := NB.new (op := op) h hw
  have hsz1 : g5 + 1 ≤ w1.heap.size := by rw [← e1, ← e4]; simp
  have HL := Lib.hid hl
  have HM := Lib.hid h.1
  have HN := Lib.hid hN
  have HS := Lib.hid hsz1
  have E := Lib.hid (And.intro e1 (And.intro e2 (And.intro e3 e4)))
  clear h hw hl hN hsz1 e1 e2 e3 e4
  go_enter Tryd.func79, Tryd.ntmps79
  go_upto_region 1 with fail
  rw [E.out.2.2.2, E.out.2.2.1, E.out.2.1, E.out.1]
  clear E
  go_wp2_with fail
  go_loopw [6, 7] (fun tv kv wr => ∃ (k f : Nat) (text : List Int), k ≤ n + 2 ∧ kv = .int .i64 k ∧ NmL w wr g g4 g5 a n c op l i f k tv text) (fun _ kv _ => n + 2 - (intOf kv).toNat)
  case atStart => exact ⟨i + 2, l.length + 1, [], by omega, by go_num, HN.out, OwnB.nil _ _, HS.out, isB_of [] rfl, by simp, rfl, by rw [HL.out]; omega⟩
  case round =>
    clear HN HS
    obtain ⟨k, f, text, hk, rfl, hR⟩ := hrel
    have HR := Lib.hid hR
    have c0 := hR.nb.rd.c0
    have c1 := hR.nb.rd.c1
    clear hR
    go_wp2_with fail
    refine (over_any wr a n c op k l HR.out.nb.rd.sm).mono ?_
    rintro e w2 ⟨rfl, hb⟩
    have HR2 := Lib.hid (HR.out.below hb)
    have d0 := HR2.out.nb.rd.c0
    have d1 := HR2.out.nb.rd.c1
    clear c0 c1 hb HR
    cases ho : over l k with
    | true =>
      have HRES : Hid (nameM l op i (l.length + 1) (i + 2) [] = .bad 32 op) := Lib.hid (by
        rw [HR2.out.eq]
        cases f with
        | zero => rfl
        | succ f => unfold nameM; rw [if_pos ho])
      clear ho
      go_wp2_with fail
      refine (unclosed_any w2 a n c op).mono ?_
      rintro e w3 ⟨rfl, hb⟩
      have HNB := Lib.hid (HR2.out.nb.below hb)
      clear d0 d1 hb HR2
      obtain ⟨q1, q2, q3, q4⟩ := HNB.out.done (thC noneL false 0 0) (faC 32 op)
      have HQ := Lib.hid (And.intro q1 (And.intro q2 q3))
      go_wp2_with (first | (refine wpList_store_row rfl TTh (.tmp 4) (.tmp 55) rfl rfl g4 TTh (thC noneL false 0 0) (thC noneL false 0 0) rfl rfl HNB.out.h4 rfl infoTh (thC_one _ _ _ _) ?_) | (refine wpList_store_row rfl TFa (.tmp 5) (.tmp 57) rfl rfl g5 TFa (faC 0 0) (faC 32 op) rfl rfl q4 rfl infoFa (faC_one _ _) ?_))
      exact ret_two (p := 4) (q := 5) rfl rfl HQ.out.2.1 Tryd.underlying150 rfl infoTh rfl HQ.out.2.2 Tryd.underlying83 rfl infoFa rfl ⟨by rw [HRES.out]; rfl, HQ.out.1⟩
    | false =>
      have hkn : k < n := by
        unfold over at ho
        have := of_decide_eq_false ho
        rw [HL.out] at this
        omega
      clear ho
      go_upto_region 5 with fail
      go_cut [29] (fun v wx => BotP w wx g g4 g5 a n c op l i f k u6 text (!(sgn l k 58 && sgn l (k + 1) 93)) v)
      case first =>
        have HD := Lib.hid (fun m => HR2.out.below (below_drewN (Below.refl _ w2) m))
        have hwr : IntKind.i64.wrap ((k : Int) + 1) = (k : Int) + 1 := IntWalk.i64_in _ (by omega)
        cases hs : sgn l k 58 with
        | false =>
          refine wp_region_held_drew (S := fun w' => NmL w w' g g4 g5 a n c op l i f k u6 text ∧ w'.cell? ⟨g, 0, none⟩ = some (.slice a n c) ∧ w'.cell? ⟨g, 1, none⟩ = some (.int .i64 (op : Int))) (by kernel_rfl) (And.intro (HD.out 1) (And.intro (HD.out 1).nb.rd.c0 (HD.out 1).nb.rd.c1)) (fun hHeld => ?_)
          refine wpAnyH_take (i := 0) (v := .agg #[.slice a n c, .int .i64 (op : Int)]) rfl (by kernel_rfl) (by kernel_rfl) (by kernel_rfl) (fun _ _ _ h => h) (Or.inl ⟨by rfl, by intro w hSw; (try dsimp only at hSw); go_simp⟩) (by assumption) ?_
          simp only [Act.put, List.getElem_toArray, List.getElem_cons_zero, List.setIfInBounds_toArray, List.set_cons_zero, List.set_cons_succ]
          refine wpAnyH_take (i := 1) (v := .int .i64 (k : Int)) rfl (by kernel_rfl) (by kernel_rfl) (by kernel_rfl) (fun _ _ _ h => h) (Or.inl ⟨by rfl, by intro w hSw; (try dsimp only at hSw); go_simp⟩) (by assumption) ?_
          simp only [Act.put, List.getElem_toArray, List.getElem_cons_zero, List.getElem_cons_succ, List.setIfInBounds_toArray, List.set_cons_zero, List.set_cons_succ]
          refine wpAnyH_ready (rs := [2]) (by kernel_rfl) (by simp) ?_
          refine AllReadyH.cons rfl (fun K hK => ?_) AllReadyH.nil
          go_simp
          refine (closer_any _ hHeld.1.nb.rd.br 58 (.inl rfl)).mono ?_
          rintro e wn ⟨rfl, hbn⟩
          replace hHeld := (fun (h : NmL w _ g g4 g5 a n c op l i f k u6 text) => And.intro h (And.intro h.nb.rd.c0 h.nb.rd.c1)) (hHeld.1.below hbn)
          refine hK.out _ _ hHeld (fun hHeld => ?_)
          clear hK K hbn
          refine wpAnyH_ready (rs := [3]) (by kernel_rfl) (by simp) ?_
          refine AllReadyH.cons rfl (fun K hK => ?_) AllReadyH.nil
          go_simp
          refine (sign_any _ a n c op k 58 l hHeld.1.nb.rd.sm).mono ?_
          rintro e wn ⟨rfl, hbn⟩
          rw [hs]
          replace hHeld := (fun (h : NmL w _ g g4 g5 a n c op l i f k u6 text) => And.intro h (And.intro h.nb.rd.c0 h.nb.rd.c1)) (hHeld.1.below hbn)
          refine hK.out _ _ hHeld (fun hHeld => ?_)
          clear hK K hbn
          refine wpAnyH_take (i := 4) (v := .bool true) rfl (by kernel_rfl) (by kernel_rfl) (by kernel_rfl) (fun _ _ _ h => h) (Or.inl ⟨by rfl, by intro w hSw; (try dsimp only at hSw); go_simp⟩) (by assumption) ?_
          simp only [Act.put, List.getElem_toArray, List.getElem_cons_zero, List.getElem_cons_succ, List.setIfInBounds_toArray, List.set_cons_zero, List.set_cons_succ]
          refine wpAnyH_take (i := 5) (v := .bool true) rfl (by kernel_rfl) (by kernel_rfl) (by kernel_rfl) (fun _ _ _ h => h) (Or.inl ⟨by rfl, by intro w hSw; (try dsimp only at hSw); go_simp⟩) (by assumption) ?_
          simp only [Act.put, List.getElem_toArray, List.getElem_cons_zero, List.getElem_cons_succ, List.setIfInBounds_toArray, List.set_cons_zero, List.set_cons_succ]
          refine wpAnyH_take (i := 6) (v := undef) rfl (by kernel_rfl) (by kernel_rfl) (by kernel_rfl) (fun _ _ _ h => h) (Or.inr ⟨by rfl, rfl⟩) (by assumption) ?_
          simp only [Act.put, List.getElem_toArray, List.getElem_cons_zero, List.getElem_cons_succ, List.setIfInBounds_toArray, List.set_cons_zero, List.set_cons_succ]
          refine wpAnyH_take (i := 7) (v := undef) rfl (by kernel_rfl) (by kernel_rfl) (by kernel_rfl) (fun _ _ _ h => h) (Or.inr ⟨by rfl, rfl⟩) (by assumption) ?_
          simp only [Act.put, List.getElem_toArray, List.getElem_cons_zero, List.getElem_cons_succ, List.setIfInBounds_toArray, List.set_cons_zero, List.set_cons_succ]
          refine wpAnyH_take (i := 8) (v := undef) rfl (by kernel_rfl) (by kernel_rfl) (by kernel_rfl) (fun _ _ _ h => h) (Or.inr ⟨by rfl, rfl⟩) (by assumption) ?_
          simp only [Act.put, List.getElem_toArray, List.getElem_cons_zero, List.getElem_cons_succ, List.setIfInBounds_toArray, List.set_cons_zero, List.set_cons_succ]
          refine wpAnyH_take (i := 9) (v := undef) rfl (by kernel_rfl) (by kernel_rfl) (by kernel_rfl) (fun _ _ _ h => h) (Or.inr ⟨by rfl, rfl⟩) (by assumption) ?_
          simp only [Act.put, List.getElem_toArray, List.getElem_cons_zero, List.getElem_cons_succ, List.setIfInBounds_toArray, List.set_cons_zero, List.set_cons_succ]
          refine wpAnyH_take (i := 10) (v := undef) rfl (by kernel_rfl) (by kernel_rfl) (by kernel_rfl) (fun _ _ _ h => h) (Or.inr ⟨by rfl, rfl⟩) (by assumption) ?_
          simp only [Act.put, List.getElem_toArray, List.getElem_cons_zero, List.getElem_cons_succ, List.setIfInBounds_toArray, List.set_cons_zero, List.set_cons_succ]
          refine wpAnyH_take (i := 11) (v := .bool true) rfl (by kernel_rfl) (by kernel_rfl) (by kernel_rfl) (fun _ _ _ h => h) (Or.inl ⟨by rfl, by intro w hSw; (try dsimp only at hSw); go_simp⟩) (by assumption) ?_
          simp only [Act.put, List.getElem_toArray, List.getElem_cons_zero, List.getElem_cons_succ, List.setIfInBounds_toArray, List.set_cons_zero, List.set_cons_succ]
          refine wpAnyH_done (by kernel_rfl) ?_ _
          have HF := Lib.hid hHeld.1
          clear hHeld
          go_wp2_with fail
          go_meet
          case rel => exact ⟨by rw [hs]; rfl, HF.out⟩
        | true =>
          cases ht : sgn l (k + 1) 93 with
          | false =>
            refine wp_region_held_drew (S := fun w' => NmL w w' g g4 g5 a n c op l i f k u6 text ∧ w'.cell? ⟨g, 0, none⟩ = some (.slice a n c) ∧ w'.cell? ⟨g, 1, none⟩ = some (.int .i64 (op : Int))) (by kernel_rfl) (And.intro (HD.out 1) (And.intro (HD.out 1).nb.rd.c0 (HD.out 1).nb.rd.c1)) (fun hHeld => ?_)
            refine wpAnyH_take (i := 0) (v := .agg #[.slice a n c, .int .i64 (op : Int)]) rfl (by kernel_rfl) (by kernel_rfl) (by kernel_rfl) (fun _ _ _ h => h) (Or.inl ⟨by rfl, by intro w hSw; (try dsimp only at hSw); go_simp⟩) (by assumption) ?_
            simp only [Act.put, List.getElem_toArray, List.getElem_cons_zero, List.setIfInBounds_toArray, List.set_cons_zero, List.set_cons_succ]
            refine wpAnyH_take (i := 1) (v := .int .i64 (k : Int)) rfl (by kernel_rfl) (by kernel_rfl) (by kernel_rfl) (fun _ _ _ h => h) (Or.inl ⟨by rfl, by intro w hSw; (try dsimp only at hSw); go_simp⟩) (by assumption) ?_
            simp only [Act.put, List.getElem_toArray, List.getElem_cons_zero, List.getElem_cons_succ, List.setIfInBounds_toArray, List.set_cons_zero, List.set_cons_succ]
            refine wpAnyH_ready (rs := [2]) (by kernel_rfl) (by simp) ?_
            refine AllReadyH.cons rfl (fun K hK => ?_) AllReadyH.nil
            go_simp
            refine (closer_any _ hHeld.1.nb.rd.br 58 (.inl rfl)).mono ?_
            rintro e wn ⟨rfl, hbn⟩
            replace hHeld := (fun (h : NmL w _ g g4 g5 a n c op l i f k u6 text) => And.intro h (And.intro h.nb.rd.c0 h.nb.rd.c1)) (hHeld.1.below hbn)
            refine hK.out _ _ hHeld (fun hHeld => ?_)
            clear hK K hbn
            refine wpAnyH_ready (rs := [3]) (by kernel_rfl) (by simp) ?_
            refine AllReadyH.cons rfl (fun K hK => ?_) AllReadyH.nil
            go_simp
            refine (sign_any _ a n c op k 58 l hHeld.1.nb.rd.sm).mono ?_
            rintro e wn ⟨rfl, hbn⟩
            rw [hs]
            replace hHeld := (fun (h : NmL w _ g g4 g5 a n c op l i f k u6 text) => And.intro h (And.intro h.nb.rd.c0 h.nb.rd.c1)) (hHeld.1.below hbn)
            refine hK.out _ _ hHeld (fun hHeld => ?_)
            clear hK K hbn
            refine wpAnyH_take (i := 4) (v := .bool false) rfl (by kernel_rfl) (by kernel_rfl) (by kernel_rfl) (fun _ _ _ h => h) (Or.inl ⟨by rfl, by intro w hSw; (try dsimp only at hSw); go_simp⟩) (by assumption) ?_
            simp only [Act.put, List.getElem_toArray, List.getElem_cons_zero, List.getElem_cons_succ, List.setIfInBounds_toArray, List.set_cons_zero, List.set_cons_succ]
            refine wpAnyH_take (i := 5) (v := .bool false) rfl (by kernel_rfl) (by kernel_rfl) (by kernel_rfl) (fun _ _ _ h => h) (Or.inl ⟨by rfl, by intro w hSw; (try dsimp only at hSw); go_simp⟩) (by assumption) ?_
            simp only [Act.put, List.getElem_toArray, List.getElem_cons_zero, List.getElem_cons_succ, List.setIfInBounds_toArray, List.set_cons_zero, List.set_cons_succ]
            refine wpAnyH_take (i := 6) (v := .agg #[.slice a n c, .int .i64 (op : Int)]) rfl (by kernel_rfl) (by kernel_rfl) (by kernel_rfl) (fun _ _ _ h => h) (Or.inl ⟨by rfl, by intro w hSw; (try dsimp only at hSw); go_simp⟩) (by assumption) ?_
            simp only [Act.put, List.getElem_toArray, List.getElem_cons_zero, List.getElem_cons_succ, List.setIfInBounds_toArray, List.set_cons_zero, List.set_cons_succ]
            refine wpAnyH_take (i := 7) (v := .int .i64 (k : Int)) rfl (by kernel_rfl) (by kernel_rfl) (by kernel_rfl) (fun _ _ _ h => h) (Or.inl ⟨by rfl, by intro w hSw; (try dsimp only at hSw); go_simp⟩) (by assumption) ?_
            simp only [Act.put, List.getElem_toArray, List.getElem_cons_zero, List.getElem_cons_succ, List.setIfInBounds_toArray, List.set_cons_zero, List.set_cons_succ]
            refine wpAnyH_take (i := 8) (v := .int .i64 ((k : Int) + 1)) rfl (by kernel_rfl) (by kernel_rfl) (by kernel_rfl) (fun _ _ _ h => h) (Or.inl ⟨by rfl, by intro w hSw; (try dsimp only at hSw); go_simp⟩) (by assumption) ?_
            simp only [Act.put, List.getElem_toArray, List.getElem_cons_zero, List.getElem_cons_succ, List.setIfInBounds_toArray, List.set_cons_zero, List.set_cons_succ]
            refine wpAnyH_ready (rs := [9]) (by kernel_rfl) (by simp) ?_
            refine AllReadyH.cons rfl (fun K hK => ?_) AllReadyH.nil
            go_simp
            refine (sign_any _ a n c op (k + 1) 93 l hHeld.1.nb.rd.sm).mono ?_
            rintro e wn ⟨rfl, hbn⟩
            rw [ht]
            replace hHeld := (fun (h : NmL w _ g g4 g5 a n c op l i f k u6 text) => And.intro h (And.intro h.nb.rd.c0 h.nb.rd.c1)) (hHeld.1.below hbn)
            refine hK.out _ _ hHeld (fun hHeld => ?_)
            clear hK K hbn
            refine wpAnyH_take (i := 10) (v := .bool true) rfl (by kernel_rfl) (by kernel_rfl) (by kernel_rfl) (fun _ _ _ h => h) (Or.inl ⟨by rfl, by intro w hSw; (try dsimp only at hSw); go_simp⟩) (by assumption) ?_
            simp only [Act.put, List.getElem_toArray, List.getElem_cons_zero, List.getElem_cons_succ, List.setIfInBounds_toArray, List.set_cons_zero, List.set_cons_succ]
            refine wpAnyH_take (i := 11) (v := .bool true) rfl (by kernel_rfl) (by kernel_rfl) (by kernel_rfl) (fun _ _ _ h => h) (Or.inl ⟨by rfl, by intro w hSw; (try dsimp only at hSw); go_simp⟩) (by assumption) ?_
            simp only [Act.put, List.getElem_toArray, List.getElem_cons_zero, List.getElem_cons_succ, List.setIfInBounds_toArray, List.set_cons_zero, List.set_cons_succ]
            refine wpAnyH_done (by kernel_rfl) ?_ _
            have HF := Lib.hid hHeld.1
            clear hHeld
            go_wp2_with fail
            go_meet
            case rel => exact ⟨by rw [hs, ht]; rfl, HF.out⟩
          | true =>
            refine wp_region_held_drew (S := fun w' => NmL w w' g g4 g5 a n c op l i f k u6 text ∧ w'.cell? ⟨g, 0, none⟩ = some (.slice a n c) ∧ w'.cell? ⟨g, 1, none⟩ = some (.int .i64 (op : Int))) (by kernel_rfl) (And.intro (HD.out 1) (And.intro (HD.out 1).nb.rd.c0 (HD.out 1).nb.rd.c1)) (fun hHeld => ?_)
            refine wpAnyH_take (i := 0) (v := .agg #[.slice a n c, .int .i64 (op : Int)]) rfl (by kernel_rfl) (by kernel_rfl) (by kernel_rfl) (fun _ _ _ h => h) (Or.inl ⟨by rfl, by intro w hSw; (try dsimp only at hSw); go_simp⟩) (by assumption) ?_
            simp only [Act.put, List.getElem_toArray, List.getElem_cons_zero, List.setIfInBounds_toArray, List.set_cons_zero, List.set_cons_succ]
            refine wpAnyH_take (i := 1) (v := .int .i64 (k : Int)) rfl (by kernel_rfl) (by kernel_rfl) (by kernel_rfl) (fun _ _ _ h => h) (Or.inl ⟨by rfl, by intro w hSw; (try dsimp only at hSw); go_simp⟩) (by assumption) ?_
            simp only [Act.put, List.getElem_toArray, List.getElem_cons_zero, List.getElem_cons_succ, List.setIfInBounds_toArray, List.set_cons_zero, List.set_cons_succ]
            refine wpAnyH_ready (rs := [2]) (by kernel_rfl) (by simp) ?_
            refine AllReadyH.cons rfl (fun K hK => ?_) AllReadyH.nil
            go_simp
            refine (closer_any _ hHeld.1.nb.rd.br 58 (.inl rfl)).mono ?_
            rintro e wn ⟨rfl, hbn⟩
            replace hHeld := (fun (h : NmL w _ g g4 g5 a n c op l i f k u6 text) => And.intro h (And.intro h.nb.rd.c0 h.nb.rd.c1)) (hHeld.1.below hbn)
            refine hK.out _ _ hHeld (fun hHeld => ?_)
            clear hK K hbn
            refine wpAnyH_ready (rs := [3]) (by kernel_rfl) (by simp) ?_
            refine AllReadyH.cons rfl (fun K hK => ?_) AllReadyH.nil
            go_simp
            refine (sign_any _ a n c op k 58 l hHeld.1.nb.rd.sm).mono ?_
            rintro e wn ⟨rfl, hbn⟩
            rw [hs]
            replace hHeld := (fun (h : NmL w _ g g4 g5 a n c op l i f k u6 text) => And.intro h (And.intro h.nb.rd.c0 h.nb.rd.c1)) (hHeld.1.below hbn)
            refine hK.out _ _ hHeld (fun hHeld => ?_)
            clear hK K hbn
            refine wpAnyH_take (i := 4) (v := .bool false) rfl (by kernel_rfl) (by kernel_rfl) (by kernel_rfl) (fun _ _ _ h => h) (Or.inl ⟨by rfl, by intro w hSw; (try dsimp only at hSw); go_simp⟩) (by assumption) ?_
            simp only [Act.put, List.getElem_toArray, List.getElem_cons_zero, List.getElem_cons_succ, List.setIfInBounds_toArray, List.set_cons_zero, List.set_cons_succ]
            refine wpAnyH_take (i := 5) (v := .bool false) rfl (by kernel_rfl) (by kernel_rfl) (by kernel_rfl) (fun _ _ _ h => h) (Or.inl ⟨by rfl, by intro w hSw; (try dsimp only at hSw); go_simp⟩) (by assumption) ?_
            simp only [Act.put, List.getElem_toArray, List.getElem_cons_zero, List.getElem_cons_succ, List.setIfInBounds_toArray, List.set_cons_zero, List.set_cons_succ]
            refine wpAnyH_take (i := 6) (v := .agg #[.slice a n c, .int .i64 (op : Int)]) rfl (by kernel_rfl) (by kernel_rfl) (by kernel_rfl) (fun _ _ _ h => h) (Or.inl ⟨by rfl, by intro w hSw; (try dsimp only at hSw); go_simp⟩) (by assumption) ?_
            simp only [Act.put, List.getElem_toArray, List.getElem_cons_zero, List.getElem_cons_succ, List.setIfInBounds_toArray, List.set_cons_zero, List.set_cons_succ]
            refine wpAnyH_take (i := 7) (v := .int .i64 (k : Int)) rfl (by kernel_rfl) (by kernel_rfl) (by kernel_rfl) (fun _ _ _ h => h) (Or.inl ⟨by rfl, by intro w hSw; (try dsimp only at hSw); go_simp⟩) (by assumption) ?_
            simp only [Act.put, List.getElem_toArray, List.getElem_cons_zero, List.getElem_cons_succ, List.setIfInBounds_toArray, List.set_cons_zero, List.set_cons_succ]
            refine wpAnyH_take (i := 8) (v := .int .i64 ((k : Int) + 1)) rfl (by kernel_rfl) (by kernel_rfl) (by kernel_rfl) (fun _ _ _ h => h) (Or.inl ⟨by rfl, by intro w hSw; (try dsimp only at hSw); go_simp⟩) (by assumption) ?_
            simp only [Act.put, List.getElem_toArray, List.getElem_cons_zero, List.getElem_cons_succ, List.setIfInBounds_toArray, List.set_cons_zero, List.set_cons_succ]
            refine wpAnyH_ready (rs := [9]) (by kernel_rfl) (by simp) ?_
            refine AllReadyH.cons rfl (fun K hK => ?_) AllReadyH.nil
            go_simp
            refine (sign_any _ a n c op (k + 1) 93 l hHeld.1.nb.rd.sm).mono ?_
            rintro e wn ⟨rfl, hbn⟩
            rw [ht]
            replace hHeld := (fun (h : NmL w _ g g4 g5 a n c op l i f k u6 text) => And.intro h (And.intro h.nb.rd.c0 h.nb.rd.c1)) (hHeld.1.below hbn)
            refine hK.out _ _ hHeld (fun hHeld => ?_)
            clear hK K hbn
            refine wpAnyH_take (i := 10) (v := .bool false) rfl (by kernel_rfl) (by kernel_rfl) (by kernel_rfl) (fun _ _ _ h => h) (Or.inl ⟨by rfl, by intro w hSw; (try dsimp only at hSw); go_simp⟩) (by assumption) ?_
            simp only [Act.put, List.getElem_toArray, List.getElem_cons_zero, List.getElem_cons_succ, List.setIfInBounds_toArray, List.set_cons_zero, List.set_cons_succ]
            refine wpAnyH_take (i := 11) (v := .bool false) rfl (by kernel_rfl) (by kernel_rfl) (by kernel_rfl) (fun _ _ _ h => h) (Or.inl ⟨by rfl, by intro w hSw; (try dsimp only at hSw); go_simp⟩) (by assumption) ?_
            simp only [Act.put, List.getElem_toArray, List.getElem_cons_zero, List.getElem_cons_succ, List.setIfInBounds_toArray, List.set_cons_zero, List.set_cons_succ]
            refine wpAnyH_done (by kernel_rfl) ?_ _
            have HF := Lib.hid hHeld.1
            clear hHeld
            go_wp2_with fail
            go_meet
            case rel => exact ⟨by rw [hs, ht]; rfl, HF.out⟩
      case rest =>
        obtain ⟨hv, hR⟩ := hcut
        subst hv
        generalize wc = w3 at hR ⊢
        have HR := Lib.hid hR
        have c0 := hR.nb.rd.c0
        have c1 := hR.nb.rd.c1
        obtain ⟨bk, o, rfl, hrd⟩ := hR.nb.rd.sm.read k hkn
        obtain ⟨r0, r1⟩ := hrd k hkn
        have hby : byteM l k = (l[k]?.getD (0, false)).1 := rfl
        rw [← hby] at r0
        have HBY := Lib.hid (HM.out k)
        clear hR hrd r1 hby d0 d1 HR2
        cases hcl : (sgn l k 58 && sgn l (k + 1) 93) with
        | false =>
          cases f with
          | zero => exfalso; have := HR.out.fk; omega
          | succ f =>
            have HEQ : Hid (nameM l op i (l.length + 1) (i + 2) [] = nameM l op i f (k + 1) (text ++ [byteM l k])) := Lib.hid (by
              rw [HR.out.eq]
              conv => lhs; unfold nameM
              rw [if_neg (by unfold over; rw [HL.out]; simp; omega), if_neg (by rw [hcl]; decide)])
            have hlen := HR.out.len
            clear hcl
            go_wp2_with (at_builtin; refine append_b1 rfl (.tmp 30) (.tmp 37) rfl (g5 + 1) _ text (byteM l k) rfl HR.out.own rfl (by omega) HR.out.sz ?_)
            intro tv' w4 ho hp
            have HNW : Hid (NmL w w4 g g4 g5 (some ⟨bk, o, none⟩) n c op l i f (k + 1) tv' (text ++ [byteM l k])) := Lib.hid
              ⟨HR.out.nb.keep (hp.bel _ _ (Below.refl _ _) (Nat.le_refl _)) (hp.bel _ _ HR.out.nb.rd.bel (by have := HR.out.nb.l5; omega)), ho, Nat.le_trans HR.out.sz hp.size, isB_snoc4 HR.out.isb HBY.out.1 HBY.out.2, by rw [List.length_append, List.length_singleton]; have := HR.out.len; omega, HEQ.out, by have := HR.out.fk; omega⟩
            clear ho hp c0 c1 r0
            go_wp2_with fail
            go_roundw
            case rel => exact ⟨k + 1, f, text ++ [byteM l k], by omega, by go_num, HNW.out⟩
            case measure => simp [intOf]; omega
        | true =>
          have hb58 : sgn l k 58 = true := (Bool.and_eq_true_iff.1 hcl).1
          have HEQ : Hid (nameM l op i (l.length + 1) (i + 2) [] = if namedL (strI text) = noneL then .bad 31 i else .ok (namedL (strI text)) false 0 (k + 2)) := Lib.hid (by
            rw [HR.out.eq]
            cases f with
            | zero => exfalso; have := HR.out.fk; omega
            | succ f =>
              conv => lhs; unfold nameM
              rw [if_neg (by unfold over; rw [HL.out]; simp; omega), if_pos hcl])
          obtain ⟨at6, ct, hat⟩ := own_shape HR.out.own
          subst hat
          have hcv := run_strI w3 at6 text.length ct text (HR.out.own.sb HR.out.isb (by have := HR.out.len; omega))
          have hssz : (strI text).size ≤ 9223372036854775807 := by
            have : (strI text).size = text.length := by simp [strI, ByteArray.size]
            have := HR.out.len
            omega
          have HCV := Lib.hid hcv
          obtain ⟨tl, htl⟩ : ∃ tl, text.length = tl := ⟨_, rfl⟩
          rw [htl] at hcv ⊢
          clear hcl hb58 HCV htl r0 c0 c1
          go_wp2_with fail
          refine (named_any w3 (strI text) hssz HR.out.nb.rd.br.names).mono ?_
          rintro e w4 ⟨rfl, hb⟩
          have HNB := Lib.hid (HR.out.nb.below hb)
          obtain ⟨u0, u1, u2, u3, hu⟩ := isC_words (namedL (strI text)) (isC_named _ 23)
          clear hcv hb HR
          rw [hu] at HEQ
          rw [hu, show row64 [u0, u1, u2, u3] = #[.int .u64 (u0 : Int), .int .u64 (u1 : Int), .int .u64 (u2 : Int), .int .u64 (u3 : Int)] from rfl]
          have HN5 := Lib.hid (HNB.out.below (box1 w4 (.cells #[.int .u64 (u0 : Int), .int .u64 (u1 : Int), .int .u64 (u2 : Int), .int .u64 (u3 : Int)] 28)))
          have HC5 := Lib.hid (heap_alloc_new w4 (.cells #[.int .u64 (u0 : Int), .int .u64 (u1 : Int), .int .u64 (u2 : Int), .int .u64 (u3 : Int)] 28))
          clear hu HNB
          by_cases hz : [u0, u1, u2, u3] = noneL
          · rw [if_pos hz] at HEQ
            rw [decide_eq_true hz]
            clear hz
            go_upto_region 8 with fail
            generalize w4.alloc (.cells #[.int .u64 (u0 : Int), .int .u64 (u1 : Int), .int .u64 (u2 : Int), .int .u64 (u3 : Int)] 28) = w5 at HN5 HC5 ⊢
            obtain ⟨q1, q2, q3, q4⟩ := HN5.out.done (thC noneL false 0 0) (faC 31 i)
            have HQ := Lib.hid (And.intro q1 (And.intro q2 q3))
            clear q1 q2 q3
            go_wp2_with (first | (refine wpList_store_row rfl TTh (.tmp 4) (.tmp 47) rfl rfl g4 TTh (thC noneL false 0 0) (thC noneL false 0 0) rfl rfl HN5.out.h4 rfl infoTh (thC_one _ _ _ _) ?_) | (refine wpList_store_row rfl TFa (.tmp 5) (.tmp 49) rfl rfl g5 TFa (faC 0 0) (faC 31 i) rfl rfl q4 rfl infoFa (faC_one _ _) ?_))
            exact ret_two (p := 4) (q := 5) rfl rfl HQ.out.2.1 Tryd.underlying150 rfl infoTh rfl HQ.out.2.2 Tryd.underlying83 rfl infoFa rfl ⟨by rw [HEQ.out]; rfl, HQ.out.1⟩
          · rw [if_neg hz] at HEQ
            rw [decide_eq_false hz]
            clear hz
            go_upto_region 8 with fail
            obtain ⟨g8, hg8⟩ : ∃ g8, w4.heap.size = g8 := ⟨_, rfl⟩
            rw [hg8] at HC5 ⊢
            generalize w4.alloc (.cells #[.int .u64 (u0 : Int), .int .u64 (u1 : Int), .int .u64 (u2 : Int), .int .u64 (u3 : Int)] 28) = w5 at HN5 HC5 ⊢
            clear hg8
            have e0 : w5.cell? ⟨g8, 0, none⟩ = some (.int .u64 (u0 : Int)) := by rw [cell_of_row _ _ _ _ _ (0, 0) HC5.out]; rfl
            have e1 : w5.cell? ⟨g8, 1, none⟩ = some (.int .u64 (u1 : Int)) := by rw [cell_of_row _ _ _ _ _ (0, 0) HC5.out]; rfl
            have e2 : w5.cell? ⟨g8, 2, none⟩ = some (.int .u64 (u2 : Int)) := by rw [cell_of_row _ _ _ _ _ (0, 0) HC5.out]; rfl
            have e3 : w5.cell? ⟨g8, 3, none⟩ = some (.int .u64 (u3 : Int)) := by rw [cell_of_row _ _ _ _ _ (0, 0) HC5.out]; rfl
            obtain ⟨q1, q2, q3, q4⟩ := HN5.out.done (thC [u0, u1, u2, u3] false 0 (k + 2)) (faC 0 0)
            have HQ := Lib.hid (And.intro q1 (And.intro q2 q3))
            clear q1 q2 q3
            go_wp2_with (first | (refine wpList_store_row rfl TTh (.tmp 4) (.tmp 53) rfl rfl g4 TTh (thC noneL false 0 0) (thC [u0, u1, u2, u3] false 0 (k + 2)) rfl rfl HN5.out.h4 rfl infoTh (thC_one _ _ _ _) ?_) | (refine wpList_store_row rfl TFa (.tmp 5) (.tmp 54) rfl rfl g5 TFa (faC 0 0) (faC 0 0) rfl rfl q4 rfl infoFa (faC_one _ _) ?_))
            exact ret_two (p := 4) (q := 5) rfl rfl HQ.out.2.1 Tryd.underlying150 rfl infoTh rfl HQ.out.2.2 Tryd.underlying83 rfl infoFa rfl ⟨by rw [HEQ.out]; rfl, HQ.out.1⟩
end Go.Proofs.YthegepiafodpjaaDoor
