/-
  BracketItems: the walk of the law.
-/
import Derived.Test.YthegepiafodpjaaDoorItC
import Derived.Test.YthegepiafodpjaaDoorBrI
import Derived.Test.YthegepiafodpjaaDoorBrF
import Derived.BigQuiet
import Derived.Lib.SmallJoins
namespace Go.Proofs.YthegepiafodpjaaDoor
open Go.RowKit

/-- The loop over the items: the marks, the class. -/
structure IL (w0 w : World) (B g7 : Nat) (v : Value) (L : List Mk) (W : List Nat) : Prop where
  own : OwnM w B v L
  b7 : w.heap[g7]? = some (.cells (row64 W) TCl (0, 0))
  ne : v.ownBlock ≠ some g7
  bel : Below w0.heap.size w0 w
  lB : w0.heap.size ≤ B
  l7 : B ≤ g7
  isc : IsC W
theorem IL.below {w0 w w' : World} {B g7 : Nat} {v : Value} {L : List Mk} {W : List Nat} (h : IL w0 w B g7 v L W) (hb : Below w.heap.size w w') : IL w0 w' B g7 v L W :=
  { h with own := h.own.below hb, b7 := heap_b hb h.b7, bel := h.bel.trans (hb.mono h.bel.size) }
theorem IL.size {w0 w : World} {B g7 : Nat} {v : Value} {L : List Mk} {W : List Nat} (h : IL w0 w B g7 v L W) : B ≤ w.heap.size := by
  have := (Array.getElem?_eq_some_iff.1 h.b7).1
  have := h.l7
  omega
theorem IL.app {w0 w w' : World} {B g7 : Nat} {v v' : Value} {L L' : List Mk} {W : List Nat} (h : IL w0 w B g7 v L W) (ho : OwnM w' B v' (L ++ L')) (hA : AppPost w w' B v v') : IL w0 w' B g7 v' (L ++ L') W := by
  have hlt := (Array.getElem?_eq_some_iff.1 h.b7).1
  refine { h with own := ho, b7 := (hA.block g7 hlt h.ne).trans h.b7, ne := fun e => ?_, bel := hA.bel _ _ h.bel h.lB }
  rcases hA.new g7 e with e | e
  · exact h.ne e
  · omega
theorem own_blk4 {W W' : World} {base s n : Nat} {e : TypeId} {v : Value} {xs : List Value} (h : W.ownsRow base e s v n xs) (hk : ∀ k, v.ownBlock = some k → W'.heap[k]? = W.heap[k]?) : W'.ownsRow base e s v n xs :=
  ⟨h.1, h.2.imp_right fun ⟨g, cap, cur, ev, hb, hg, r⟩ => ⟨g, cap, cur, ev, hb, (hk g (by rw [ev]; rfl)).trans hg, r⟩⟩
theorem IL.store {w0 w : World} {B g7 : Nat} {v : Value} {L : List Mk} {W : List Nat} (h : IL w0 w B g7 v L W) (W' : List Nat) (hW : IsC W') : IL w0 (w.setRow g7 (row64 W')) B g7 v L W' :=
  { h with own := own_blk4 h.own (fun k e => _root_.Go.setRow_other _ _ _ _ (fun e2 => h.ne (by rw [e, e2]))), b7 := setRow_heap _ _ _ _ _ _ h.b7, bel := below_setRow h.bel (Nat.le_trans h.lB h.l7) _, isc := hW }
/-- The box of an item. -/
def ItBox (w : World) (g : Nat) (x : El) : Prop := w.heap[g]? = some (.cells #[.int .i64 (x.i 0), .int .u8 (x.i 1), .int .u8 (x.i 2), .int .i64 (x.i 3)] 65 (0, 0))
theorem ItBox.below {w w' : World} {g : Nat} {x : El} (h : ItBox w g x) (hb : Below w.heap.size w w') : ItBox w' g x := heap_b hb h
theorem ItBox.cells {w : World} {g : Nat} {x : El} (h : ItBox w g x) : w.cell? ⟨g, 0, none⟩ = some (.int .i64 (x.i 0)) ∧ w.cell? ⟨g, 1, none⟩ = some (.int .u8 (x.i 1)) ∧ w.cell? ⟨g, 2, none⟩ = some (.int .u8 (x.i 2)) ∧ w.cell? ⟨g, 3, none⟩ = some (.int .i64 (x.i 3)) := by
  refine ⟨?_, ?_, ?_, ?_⟩ <;> (rw [cell_of_row _ _ _ _ _ (0, 0) h]; rfl)
/-- The loop, and the item's box. -/
structure IB4 (w0 w : World) (B g7 g9 : Nat) (v : Value) (L : List Mk) (W : List Nat) (x : El) : Prop where
  il : IL w0 w B g7 v L W
  bx : ItBox w g9 x
  n9 : v.ownBlock ≠ some g9
  n97 : g9 ≠ g7
theorem IB4.below {w0 w w' : World} {B g7 g9 : Nat} {v : Value} {L : List Mk} {W : List Nat} {x : El} (h : IB4 w0 w B g7 g9 v L W x) (hb : Below w.heap.size w w') : IB4 w0 w' B g7 g9 v L W x :=
  { h with il := h.il.below hb, bx := h.bx.below hb }
theorem IB4.app {w0 w w' : World} {B g7 g9 : Nat} {v v' : Value} {L L' : List Mk} {W : List Nat} {x : El} (h : IB4 w0 w B g7 g9 v L W x) (ho : OwnM w' B v' (L ++ L')) (hA : AppPost w w' B v v') : IB4 w0 w' B g7 g9 v' (L ++ L') W x := by
  have hlt := (Array.getElem?_eq_some_iff.1 h.bx).1
  refine ⟨h.il.app ho hA, (hA.block g9 hlt h.n9).trans h.bx, fun e => ?_, h.n97⟩
  rcases hA.new g9 e with e | e
  · exact h.n9 e
  · omega
theorem IB4.new {w0 w : World} {B g7 : Nat} {v : Value} {L : List Mk} {W : List Nat} (h : IL w0 w B g7 v L W) (x : El) : IB4 w0 (w.alloc (.cells #[.int .i64 (x.i 0), .int .u8 (x.i 1), .int .u8 (x.i 2), .int .i64 (x.i 3)] 65)) B g7 w.heap.size v L W x :=
  ⟨h.below (box1 _ _), heap_alloc_new w _, fun e => by have := (World.ownsRow.lt h.own _ e).2; omega, by have := (Array.getElem?_eq_some_iff.1 h.b7).1; omega⟩
theorem wf_i64c {n : Int} (h : (Lit.int .i64 n).wf = true) : -9223372036854775808 ≤ n ∧ n ≤ 9223372036854775807 := by
  simp [Lit.wf, IntKind.min, IntKind.max, IntKind.signed, IntKind.bits] at h
  omega
theorem El04 {w : World} {b o : Nat} {x : El} (h : ElAt w b o ks04 x) : (w.cell? ⟨b, o, none⟩ = some (.int .i64 (x.i 0)) ∧ w.cell? ⟨b, o + 1, none⟩ = some (.int .u8 (x.i 1)) ∧ w.cell? ⟨b, o + 2, none⟩ = some (.int .u8 (x.i 2)) ∧ w.cell? ⟨b, o + 3, none⟩ = some (.int .i64 (x.i 3))) ∧
    (-9223372036854775808 ≤ x.i 0 ∧ x.i 0 ≤ 9223372036854775807) ∧ (0 ≤ x.i 1 ∧ x.i 1 ≤ 255) ∧ (0 ≤ x.i 2 ∧ x.i 2 ≤ 255) ∧ (-9223372036854775808 ≤ x.i 3 ∧ x.i 3 ≤ 9223372036854775807) := by
  obtain ⟨_, a0, rfl, b0⟩ := h 0 _ rfl
  obtain ⟨_, a1, rfl, b1⟩ := h 1 _ rfl
  obtain ⟨_, a2, rfl, b2⟩ := h 2 _ rfl
  obtain ⟨_, a3, rfl, b3⟩ := h 3 _ rfl
  exact ⟨⟨a0, a1, a2, a3⟩, wf_i64c b0, wf_u8 b1, wf_u8 b2, wf_i64c b3⟩
theorem cat_bytes (k : Nat) : bytesL (⟨#[91, 58]⟩ ++ nmT k ++ ⟨#[58, 93]⟩) = 91 :: 58 :: (nmI k ++ [58, 93]) := by
  unfold bytesL nmI
  rw [Joins.data_append, Joins.data_append, List.map_append, List.map_append]
  rfl
theorem nmMk_len (k : Nat) (h : k < 12) : (nmMk k).length ≤ 10 := by
  have := (nm_ok4 k h).2.2.2
  unfold nmMk sg
  simp
  omega
theorem nmT_six (k : Nat) : (nmT k).size ≤ 6 := by unfold nmT; split <;> decide
theorem cat_size (k : Nat) : (⟨#[91, 58]⟩ ++ nmT k ++ ⟨#[58, 93]⟩ : ByteArray).size ≤ 2147483648 := by
  have := nmT_six k
  rw [ByteArray.size_append, ByteArray.size_append]
  have h1 : (⟨#[91, 58]⟩ : ByteArray).size = 2 := rfl
  have h2 : (⟨#[58, 93]⟩ : ByteArray).size = 2 := rfl
  omega
theorem nmT_size (k : Nat) : (nmT k).size ≤ 9223372036854775807 := by unfold nmT; split <;> decide
def upIt (nt : Bool) (xs : List El) (k : Nat) : List Mk := (91, false) :: ((if nt = true then [(94, false)] else []) ++ itsMk (xs.take k))
theorem upIt_step (nt : Bool) (xs : List El) (k : Nat) (h : k < xs.length) : upIt nt xs (k + 1) = upIt nt xs k ++ itMk (xs[k]?.getD El.zero) := by
  unfold upIt itsMk
  rw [List.take_add_one, List.flatMap_append, List.getElem?_eq_getElem h]
  simp
theorem upIt_len (nt : Bool) (xs : List El) (k : Nat) (h : xs.length ≤ 1048576) : (upIt nt xs k).length ≤ 11534340 := by
  have h1 := (its_len (xs.take k)).2
  have h2 : (xs.take k).length ≤ 1048576 := by rw [List.length_take]; omega
  unfold upIt
  rw [List.length_cons, List.length_append]
  split
  · simp; omega
  · simp; omega
theorem itsC_step (xs : List El) (k : Nat) (h : k < xs.length) : itsC (xs.take (k + 1)) = orL (itsC (xs.take k)) (itC (xs[k]?.getD El.zero)) := by
  unfold itsC
  rw [List.take_add_one, List.foldl_append, List.getElem?_eq_getElem h]
  rfl
theorem brIt_up (nt : Bool) (xs : List El) : brIt nt xs = upIt nt xs xs.length ++ [(93, false)] := by
  unfold brIt upIt
  rw [List.take_length]
theorem enc_len (y x : Int) : (encM y x).length = 5 := rfl
theorem isM_enc (y x : Int) (h0 : 0 ≤ y ∧ y ≤ 255) (h1 : 0 ≤ x ∧ x ≤ 255) : IsM (encM y x) := by
  intro i
  unfold encM
  match i with
  | 0 => simp
  | 1 => simpa using h0
  | 2 => simpa using h1
  | 3 => simpa using h0
  | 4 => simp
  | i + 5 => simp
theorem nmI_b (k : Nat) : ∀ x ∈ nmI k, 0 ≤ x ∧ x ≤ 255 := by
  intro x hx
  unfold nmI at hx
  rw [List.mem_map] at hx
  obtain ⟨b, _, rfl⟩ := hx
  have := b.toNat_lt
  omega
theorem isM_nm (k : Nat) : IsM (nmMk k) := isM_sg _ (by
  rw [List.all_eq_true]
  intro x hx
  simp only [List.mem_cons, List.mem_append, List.not_mem_nil, or_false] at hx
  rcases hx with rfl | rfl | hx | rfl | rfl
  · decide
  · decide
  · have := nmI_b k x hx; simpa using this
  · decide
  · decide)
theorem isM_it (x : El) (h1 : 0 ≤ x.i 1 ∧ x.i 1 ≤ 255) (h2 : 0 ≤ x.i 2 ∧ x.i 2 ≤ 255) : IsM (itMk x) := by
  have hlo : 0 ≤ itLo x ∧ itLo x ≤ 255 := by unfold itLo; split <;> omega
  have hhi : 0 ≤ itHi x ∧ itHi x ≤ 255 := by unfold itHi; split <;> omega
  unfold itMk
  split
  · exact isM_one _ _ h1.1 h1.2
  · split
    · exact isM_enc _ _ (by decide) h1
    · split
      · exact isM_enc _ _ (by decide) h1
      · split
        · exact isM_append _ _ (isM_enc _ _ (by decide) hlo) (isM_append [(45, false)] _ (isM_one 45 false (by decide) (by decide)) (isM_enc _ _ (by decide) hhi))
        · exact isM_nm _
theorem isM_its (xs : List El) (h : ∀ x ∈ xs, (0 ≤ x.i 1 ∧ x.i 1 ≤ 255) ∧ (0 ≤ x.i 2 ∧ x.i 2 ≤ 255)) : IsM (itsMk xs) := by
  unfold itsMk
  induction xs with
  | nil => exact isM_nil
  | cons x xs ih =>
    rw [List.flatMap_cons]
    have hx := h x (List.mem_cons_self ..)
    exact isM_append _ _ (isM_it x hx.1 hx.2) (ih fun y hy => h y (List.mem_cons_of_mem _ hy))
theorem isM_br (nt : Bool) (xs : List El) (h : ∀ x ∈ xs, (0 ≤ x.i 1 ∧ x.i 1 ≤ 255) ∧ (0 ≤ x.i 2 ∧ x.i 2 ≤ 255)) : IsM (brIt nt xs) := by
  unfold brIt
  refine isM_append _ _ (isM_append [(91, false)] _ (isM_one 91 false (by decide) (by decide)) (isM_append _ _ ?_ (isM_its xs h))) (isM_one 93 false (by decide) (by decide))
  cases nt with
  | true => exact isM_one 94 false (by decide) (by decide)
  | false => exact isM_nil

set_option maxHeartbeats 8000000 in
set_option maxRecDepth 100000 in
theorem itB_any (w : World) (hw : W4 w) (nt : Bool) (a1 : Option Addr) (n1 c1 : Nat) (xs : List El) (hA : SS w ks04 (.slice a1 n1 c1) xs) :
    Calls Tryd.prog 6 #[.bool nt, .slice a1 n1 c1] w fun e w' => e = .returned (.bool true) ∧ Below w.heap.size w w' := by
  obtain ⟨hxl, hn1, -, -⟩ := hA.len
  have HW := Lib.hid hw
  have HA := Lib.hid hA
  have HXL := Lib.hid hxl
  clear hw hA hxl
  go_enter Tryd.func6, Tryd.ntmps6
  go_wp2_with fail
  refine (works4_any w HW.out).mono ?_
  rintro e w1 ⟨rfl, b1⟩
  have B1 := Lib.hid b1
  clear b1
  by_cases h0 : n1 = 0
  · have hz : ((n1 : Int) == 0) = true := by simp [h0]
    clear h0
    go_wp2_with fail
    go_ret
    exact ⟨rfl, B1.out⟩
  · have hz : ((n1 : Int) == 0) = false := by simp; omega
    by_cases hbig : 1048576 < n1
    · have hd : decide ((1048576 : Int) < (n1 : Int)) = true := decide_eq_true (by omega)
      go_wp2_with fail
      go_ret
      exact ⟨rfl, B1.out⟩
    · have hd : decide ((1048576 : Int) < (n1 : Int)) = false := decide_eq_false (by omega)
      have hle : n1 ≤ 1048576 := by omega
      have HALL : Hid (∀ x ∈ xs, (0 ≤ x.i 1 ∧ x.i 1 ≤ 255) ∧ (0 ≤ x.i 2 ∧ x.i 2 ≤ 255)) := Lib.hid (fun x hx => by
        obtain ⟨k, hk, rfl⟩ := List.getElem_of_mem hx
        obtain ⟨b, o, -, hr⟩ := HA.out.read k (by rw [← HXL.out]; exact hk)
        have := hr k (by rw [← HXL.out]; exact hk)
        rw [List.getElem?_eq_getElem hk, Option.getD_some] at this
        exact ⟨(El04 this).2.2.1, (El04 this).2.2.2.1⟩)
      have HNE : Hid (xs ≠ []) := Lib.hid (fun e => by rw [e] at HXL; have := HXL.out; simp at this; omega)
      have HPI := Lib.hid (parse_its nt xs HNE.out)
      go_upto_region 5 with fail
      have o6 := OwnM.lit w1 [(91, false)] #[.int .u8 91, .bool false] 1 rfl rfl (by decide) w1.heap.size (Nat.le_refl _)
      have b6 := B1.out.trans ((box1 w1 (.cells #[.int .u8 91, .bool false] 35)).mono B1.out.size)
      have hs6 := (box1 w1 (.cells #[.int .u8 91, .bool false] 35)).size
      have HB1 := Lib.hid B1.out.size
      obtain ⟨B, hB⟩ : ∃ B, w1.heap.size = B := ⟨_, rfl⟩
      rw [hB] at o6 hs6 HB1 ⊢
      clear hB
      generalize w1.alloc (.cells #[.int .u8 91, .bool false] 35) = w2 at o6 b6 hs6 ⊢
      generalize Value.slice (some ⟨B, 0, none⟩) 1 1 = v6 at o6 ⊢
      have O6 := Lib.hid o6
      have B6 := Lib.hid b6
      clear o6 b6 B1 h0 hbig hz hd
      go_upto_if 30 with fail
      go_cut [6] (fun v wx => OwnM wx B v (upIt nt xs 0) ∧ Below w.heap.size w wx ∧ B ≤ wx.heap.size)
      case first =>
        cases nt with
        | false =>
          go_wp2_with fail
          go_meet
          case rel => exact ⟨O6.out, B6.out, hs6⟩
        | true =>
          go_wp2_with (at_builtin; refine append_mk rfl (.tmp 31) (.tmp 33) rfl B _ [(91, false)] [(94, false)] _ 1 rfl rfl rfl O6.out rfl (by simp) hs6 ?_)
          intro v7 w3 ho hA
          have hbel := Lib.hid (hA.bel _ _ B6.out HB1.out)
          have hsz := hA.size
          have HO := Lib.hid ho
          clear ho hA
          go_wp2_with fail
          go_meet
          case rel => exact ⟨HO.out, hbel.out, by omega⟩
      case rest =>
        obtain ⟨o7, b7, hs7⟩ := hcut
        clear O6 B6
        generalize wc = w3 at o7 b7 hs7 ⊢
        have n7 := heap_alloc_new w3 (.cells zCl TCl)
        have bx7 := box1 w3 (.cells zCl TCl)
        have HI : Hid (IL w (w3.alloc (.cells zCl TCl)) B w3.heap.size u6 (upIt nt xs 0) (itsC (xs.take 0))) := Lib.hid
          ⟨o7.below bx7, n7, fun e => by have := (World.ownsRow.lt o7 _ e).2; omega, b7.trans (bx7.mono b7.size), HB1.out, hs7, isC_none⟩
        clear o7 b7 hs7 n7 bx7
        go_wp2_with fail
        generalize w3.heap.size = g7 at HI ⊢
        generalize w3.alloc (.cells zCl TCl) = w4 at HI ⊢
        go_loopw [6, 8] (fun v i wr => ∃ k : Nat, k ≤ n1 ∧ i = .int .i64 (k : Int) ∧ IL w wr B g7 v (upIt nt xs k) (itsC (xs.take k))) (fun _ i _ => n1 - (intOf i).toNat)
        case atStart => exact ⟨0, by omega, rfl, HI.out⟩
        case round =>
          clear HI
          obtain ⟨k, hk, rfl, hI⟩ := hrel
          have HI := Lib.hid hI
          clear hI
          have hlen := upIt_len nt xs k (by rw [HXL.out]; exact hle)
          by_cases hlt : k < n1
          · have hdl : decide ((k : Int) < (n1 : Int)) = true := decide_eq_true (by omega)
            have HST := Lib.hid (upIt_step nt xs k (by rw [HXL.out]; exact hlt))
            have HSC := Lib.hid (itsC_step xs k (by rw [HXL.out]; exact hlt))
            obtain ⟨bk, o, rfl, hr⟩ := (HA.out.below HI.out.bel).read k hlt
            have hel := hr k hlt
            rw [show ks04.length = 4 from rfl] at hel
            obtain ⟨⟨a0, a1, a2, a3⟩, k0, k1, k2, k3⟩ := El04 hel
            have HISC := Lib.hid (isC_it (xs[k]?.getD El.zero))
            have HKB := Lib.hid (withinM_b ((xs[k]?.getD El.zero).i 0) 5 (by omega))
            have HNB := Lib.hid (withinM_b ((xs[k]?.getD El.zero).i 3) 12 (by omega))
            generalize xs[k]?.getD El.zero = x at HST HSC a0 a1 a2 a3 k0 k1 k2 k3 HISC HKB HNB
            generalize itsC (xs.take k) = Wl at HI HSC
            obtain ⟨m0, m1, m2, m3, rfl⟩ := isC_words Wl HI.out.isc
            generalize upIt nt xs k = L at HI HST hlen
            have HK1 := Lib.hid k1
            have HK2 := Lib.hid k2
            have HK3 := Lib.hid k3
            clear hr hel k1 k2 k3
            have HB9 := Lib.hid (IB4.new HI.out x)
            clear HI
            go_upto_region 12 with fail
            clear a0 a1 a2 a3
            generalize wr.heap.size = g9 at HB9 ⊢
            generalize wr.alloc (.cells #[.int .i64 (x.i 0), .int .u8 (x.i 1), .int .u8 (x.i 2), .int .i64 (x.i 3)] 65) = w5 at HB9 ⊢
            obtain ⟨c0, c1', c2, c3⟩ := HB9.out.bx.cells
            go_wp2_with fail
            refine (within5_any w5 (x.i 0) k0.1 k0.2).mono ?_
            rintro e w6 ⟨rfl, rfl⟩
            rw [show withinM (x.i 0) 5 = itK x from rfl]
            have hkb : 0 ≤ itK x ∧ itK x < 5 := HKB.out
            have HMK : Hid (itMk x = if itK x = 0 then [(x.i 1, true)] else if itK x = 1 then encM 46 (x.i 1) else if itK x = 2 then encM 61 (x.i 1) else if itK x = 3 then encM 46 (itLo x) ++ (45, false) :: encM 46 (itHi x) else nmMk (itN x)) := Lib.hid rfl
            have HMC : Hid (itC x = if itK x = 0 then ofL [x.i 1] else if itK x = 1 then ofL [x.i 1] else if itK x = 2 then ofL [x.i 1] else if itK x = 3 then rangeL (itLo x).toNat (itHi x).toNat else namedL (nmT (itN x))) := Lib.hid rfl
            generalize itK x = kd at hkb HMK HMC ⊢
            clear k0 HKB
            rcases (by omega : kd = 0 ∨ kd = 1 ∨ kd = 2 ∨ kd = 3 ∨ kd = 4) with rfl | rfl | rfl | rfl | rfl
            · have HMM : Hid (itMk x = [(x.i 1, true)]) := HMK
              have HMC2 : Hid (itC x = ofL [x.i 1]) := HMC
              have HMCC : Hid (orL [m0, m1, m2, m3] (itC x) = orL [m0, m1, m2, m3] (ofL [x.i 1])) := Lib.hid (by rw [HMC2.out])
              clear HMK HMC
              go_upto_region 15 with (at_builtin; refine append_mk rfl (.tmp 51) (.tmp 55) rfl B _ L [(x.i 1, true)] _ 1 rfl rfl rfl HB9.out.il.own rfl (by omega) HB9.out.il.size ?_; intro v9 w7 ho hA; have HBA := Lib.hid (HB9.out.app ho hA); clear ho hA HB9 c0 c1' c2 c3)
              have hS : w7.drew.cell? ⟨g9, 1, none⟩ = some (.int .u8 (x.i 1)) := HBA.out.bx.cells.2.1
              have HTD := Lib.hid (HBA.out.below (Below.refl _ w7).drew)
              clear HBA
              refine wp_region_held_drew (S := fun w' => w'.cell? ⟨g9, 1, none⟩ = some (.int .u8 (x.i 1))) (by kernel_rfl) hS (fun hHeld => ?_)
              generalize w7.drew = wd at HTD hHeld ⊢
              clear hS
              refine wpAnyH_take (i := 1) (v := .pointer (some ⟨g9, 1, none⟩)) rfl (by kernel_rfl) (by kernel_rfl) (by kernel_rfl) (fun _ _ _ h => h) (Or.inl ⟨by rfl, by intro w hSw; (try dsimp only at hSw); go_simp⟩) (by assumption) ?_
              simp only [Act.put, List.getElem_toArray, List.getElem_cons_zero, List.getElem_cons_succ, List.setIfInBounds_toArray, List.set_cons_zero, List.set_cons_succ]
              refine wpAnyH_take (i := 2) (v := .int .u8 (x.i 1)) rfl (by kernel_rfl) (by kernel_rfl) (by kernel_rfl) (fun _ _ _ h => h) (Or.inl ⟨by rfl, by intro w hSw; (try dsimp only at hSw); go_simp⟩) (by assumption) ?_
              simp only [Act.put, List.getElem_toArray, List.getElem_cons_zero, List.getElem_cons_succ, List.setIfInBounds_toArray, List.set_cons_zero, List.set_cons_succ]
              refine wpAnyH_ready (rs := [0, 3]) (by kernel_rfl) (by simp) ?_
              refine AllReadyH.cons rfl (fun K hK => ?_) (AllReadyH.cons rfl (fun K hK => ?_) AllReadyH.nil)
              · obtain ⟨e0, e1, e2, e3⟩ := cells4n (show wd.heap[g7]? = some (.cells #[.int .u64 (m0 : Int), .int .u64 (m1 : Int), .int .u64 (m2 : Int), .int .u64 (m3 : Int)] TCl (0, 0)) from HTD.out.il.b7)
                go_simp
                clear e0 e1 e2 e3
                refine hK.out _ _ hHeld (fun hHeld => ?_)
                clear hK K
                refine wpAnyH_ready (rs := [3]) (by kernel_rfl) (by simp) ?_
                refine AllReadyH.cons rfl (fun K hK => ?_) AllReadyH.nil
                go_simp
                have hbn := box1 wd (.cells #[.int .u8 (x.i 1)] 5)
                have HSB := Lib.hid (SB.lit wd 5 [x.i 1] #[.int .u8 (x.i 1)] (0, 0) 1 rfl (by have := HK1.out; simp; omega) (by simp))
                have HTE := Lib.hid (HTD.out.below hbn)
                replace hHeld := cell_b hbn hHeld
                generalize wd.heap.size = gs at HSB ⊢
                generalize wd.alloc (.cells #[.int .u8 (x.i 1)] 5) = we at HSB HTE hHeld hbn ⊢
                refine hK.out _ _ hHeld (fun hHeld => ?_)
                clear hK K hbn
                refine wpAnyH_ready (rs := [4]) (by kernel_rfl) (by simp) ?_
                refine AllReadyH.cons rfl (fun K hK => ?_) AllReadyH.nil
                go_simp
                refine (of_any _ _ [x.i 1] HSB.out).mono ?_
                rintro e wf ⟨rfl, hbn⟩
                have HTF := Lib.hid (HTE.out.below hbn)
                replace hHeld := cell_b hbn hHeld
                refine hK.out _ _ hHeld (fun hHeld => ?_)
                clear hK K hbn
                have HOF := Lib.hid (isC_ofL [x.i 1])
                obtain ⟨r0, r1, r2, r3, hu⟩ := isC_words _ HOF.out
                rw [hu] at HMCC HOF
                rw [hu, show row64 [r0, r1, r2, r3] = #[.int .u64 (r0 : Int), .int .u64 (r1 : Int), .int .u64 (r2 : Int), .int .u64 (r3 : Int)] from rfl]
                clear hu
                refine wpAnyH_ready (rs := [5]) (by kernel_rfl) (by simp) ?_
                refine AllReadyH.cons rfl (fun K hK => ?_) AllReadyH.nil
                go_simp
                refine (or_any _ [m0, m1, m2, m3] [r0, r1, r2, r3] HTF.out.il.isc HOF.out).mono ?_
                rintro e wg ⟨rfl, hbn⟩
                have HTG := Lib.hid (HTF.out.below hbn)
                replace hHeld := cell_b hbn hHeld
                refine hK.out _ _ hHeld (fun hHeld => ?_)
                clear hK K hbn
                have HOR := Lib.hid (isC_or _ _ HTF.out.il.isc HOF.out)
                obtain ⟨t0, t1, t2, t3, ht⟩ := isC_words _ HOR.out
                rw [ht] at HMCC HOR
                rw [ht, show row64 [t0, t1, t2, t3] = #[.int .u64 (t0 : Int), .int .u64 (t1 : Int), .int .u64 (t2 : Int), .int .u64 (t3 : Int)] from rfl]
                clear ht
                have HB7 : Hid (wg.heap[g7]? = some (.cells #[.int .u64 (m0 : Int), .int .u64 (m1 : Int), .int .u64 (m2 : Int), .int .u64 (m3 : Int)] TCl (0, 0))) := Lib.hid HTG.out.il.b7
                refine wpAnyH_ready (rs := [6]) (by kernel_rfl) (by simp) ?_
                refine AllReadyH.cons rfl (fun K hK => ?_) AllReadyH.nil
                refine wp_store_row TCl _ _ rfl g7 #[.int .u64 (t0 : Int), .int .u64 (t1 : Int), .int .u64 (t2 : Int), .int .u64 (t3 : Int)] rfl rfl TCl #[.int .u64 (m0 : Int), .int .u64 (m1 : Int), .int .u64 (m2 : Int), .int .u64 (m3 : Int)] HB7.out infoCl rfl (by kernel_rfl) ?_
                refine hK.out _ _ (setRow_cellF hHeld HTG.out.n97) (fun hHeld => ?_)
                clear hK K
                refine wpAnyH_done (by kernel_rfl) ?_ _
                have HNW : Hid (IL w (wg.setRow g7 #[.int .u64 (t0 : Int), .int .u64 (t1 : Int), .int .u64 (t2 : Int), .int .u64 (t3 : Int)]) B g7 v9 (upIt nt xs (k + 1)) (itsC (xs.take (k + 1)))) := Lib.hid (by
                  rw [HST.out, HSC.out, HMM.out, HMCC.out]
                  exact HTG.out.il.store [t0, t1, t2, t3] HOR.out)
                go_wp2_with fail
                go_roundw
                case rel => exact ⟨k + 1, by omega, by go_num, HNW.out⟩
                case measure => simp [intOf]; omega
              · go_simp
                have hbn := box1 wd (.cells #[.int .u8 (x.i 1)] 5)
                have HSB := Lib.hid (SB.lit wd 5 [x.i 1] #[.int .u8 (x.i 1)] (0, 0) 1 rfl (by have := HK1.out; simp; omega) (by simp))
                have HTE := Lib.hid (HTD.out.below hbn)
                replace hHeld := cell_b hbn hHeld
                generalize wd.heap.size = gs at HSB ⊢
                generalize wd.alloc (.cells #[.int .u8 (x.i 1)] 5) = we at HSB HTE hHeld hbn ⊢
                refine hK.out _ _ hHeld (fun hHeld => ?_)
                clear hK K hbn
                refine wpAnyH_ready (rs := [0, 4]) (by kernel_rfl) (by simp) ?_
                refine AllReadyH.cons rfl (fun K hK => ?_) (AllReadyH.cons rfl (fun K hK => ?_) AllReadyH.nil)
                · obtain ⟨e0, e1, e2, e3⟩ := cells4n (show we.heap[g7]? = some (.cells #[.int .u64 (m0 : Int), .int .u64 (m1 : Int), .int .u64 (m2 : Int), .int .u64 (m3 : Int)] TCl (0, 0)) from HTE.out.il.b7)
                  go_simp
                  clear e0 e1 e2 e3
                  refine hK.out _ _ hHeld (fun hHeld => ?_)
                  clear hK K
                  refine wpAnyH_ready (rs := [4]) (by kernel_rfl) (by simp) ?_
                  refine AllReadyH.cons rfl (fun K hK => ?_) AllReadyH.nil
                  go_simp
                  refine (of_any _ _ [x.i 1] HSB.out).mono ?_
                  rintro e wf ⟨rfl, hbn⟩
                  have HTF := Lib.hid (HTE.out.below hbn)
                  replace hHeld := cell_b hbn hHeld
                  refine hK.out _ _ hHeld (fun hHeld => ?_)
                  clear hK K hbn
                  have HOF := Lib.hid (isC_ofL [x.i 1])
                  obtain ⟨r0, r1, r2, r3, hu⟩ := isC_words _ HOF.out
                  rw [hu] at HMCC HOF
                  rw [hu, show row64 [r0, r1, r2, r3] = #[.int .u64 (r0 : Int), .int .u64 (r1 : Int), .int .u64 (r2 : Int), .int .u64 (r3 : Int)] from rfl]
                  clear hu
                  refine wpAnyH_ready (rs := [5]) (by kernel_rfl) (by simp) ?_
                  refine AllReadyH.cons rfl (fun K hK => ?_) AllReadyH.nil
                  go_simp
                  refine (or_any _ [m0, m1, m2, m3] [r0, r1, r2, r3] HTF.out.il.isc HOF.out).mono ?_
                  rintro e wg ⟨rfl, hbn⟩
                  have HTG := Lib.hid (HTF.out.below hbn)
                  replace hHeld := cell_b hbn hHeld
                  refine hK.out _ _ hHeld (fun hHeld => ?_)
                  clear hK K hbn
                  have HOR := Lib.hid (isC_or _ _ HTF.out.il.isc HOF.out)
                  obtain ⟨t0, t1, t2, t3, ht⟩ := isC_words _ HOR.out
                  rw [ht] at HMCC HOR
                  rw [ht, show row64 [t0, t1, t2, t3] = #[.int .u64 (t0 : Int), .int .u64 (t1 : Int), .int .u64 (t2 : Int), .int .u64 (t3 : Int)] from rfl]
                  clear ht
                  have HB7 : Hid (wg.heap[g7]? = some (.cells #[.int .u64 (m0 : Int), .int .u64 (m1 : Int), .int .u64 (m2 : Int), .int .u64 (m3 : Int)] TCl (0, 0))) := Lib.hid HTG.out.il.b7
                  refine wpAnyH_ready (rs := [6]) (by kernel_rfl) (by simp) ?_
                  refine AllReadyH.cons rfl (fun K hK => ?_) AllReadyH.nil
                  refine wp_store_row TCl _ _ rfl g7 #[.int .u64 (t0 : Int), .int .u64 (t1 : Int), .int .u64 (t2 : Int), .int .u64 (t3 : Int)] rfl rfl TCl #[.int .u64 (m0 : Int), .int .u64 (m1 : Int), .int .u64 (m2 : Int), .int .u64 (m3 : Int)] HB7.out infoCl rfl (by kernel_rfl) ?_
                  refine hK.out _ _ (setRow_cellF hHeld HTG.out.n97) (fun hHeld => ?_)
                  clear hK K
                  refine wpAnyH_done (by kernel_rfl) ?_ _
                  have HNW : Hid (IL w (wg.setRow g7 #[.int .u64 (t0 : Int), .int .u64 (t1 : Int), .int .u64 (t2 : Int), .int .u64 (t3 : Int)]) B g7 v9 (upIt nt xs (k + 1)) (itsC (xs.take (k + 1)))) := Lib.hid (by
                    rw [HST.out, HSC.out, HMM.out, HMCC.out]
                    exact HTG.out.il.store [t0, t1, t2, t3] HOR.out)
                  go_wp2_with fail
                  go_roundw
                  case rel => exact ⟨k + 1, by omega, by go_num, HNW.out⟩
                  case measure => simp [intOf]; omega
                · go_simp
                  refine (of_any _ _ [x.i 1] HSB.out).mono ?_
                  rintro e wf ⟨rfl, hbn⟩
                  have HTF := Lib.hid (HTE.out.below hbn)
                  replace hHeld := cell_b hbn hHeld
                  refine hK.out _ _ hHeld (fun hHeld => ?_)
                  clear hK K hbn
                  have HOF := Lib.hid (isC_ofL [x.i 1])
                  obtain ⟨r0, r1, r2, r3, hu⟩ := isC_words _ HOF.out
                  rw [hu] at HMCC HOF
                  rw [hu, show row64 [r0, r1, r2, r3] = #[.int .u64 (r0 : Int), .int .u64 (r1 : Int), .int .u64 (r2 : Int), .int .u64 (r3 : Int)] from rfl]
                  clear hu
                  refine wpAnyH_ready (rs := [0]) (by kernel_rfl) (by simp) ?_
                  refine AllReadyH.cons rfl (fun K hK => ?_) AllReadyH.nil
                  obtain ⟨e0, e1, e2, e3⟩ := cells4n (show wf.heap[g7]? = some (.cells #[.int .u64 (m0 : Int), .int .u64 (m1 : Int), .int .u64 (m2 : Int), .int .u64 (m3 : Int)] TCl (0, 0)) from HTF.out.il.b7)
                  go_simp
                  clear e0 e1 e2 e3
                  refine hK.out _ _ hHeld (fun hHeld => ?_)
                  clear hK K
                  refine wpAnyH_ready (rs := [5]) (by kernel_rfl) (by simp) ?_
                  refine AllReadyH.cons rfl (fun K hK => ?_) AllReadyH.nil
                  go_simp
                  refine (or_any _ [m0, m1, m2, m3] [r0, r1, r2, r3] HTF.out.il.isc HOF.out).mono ?_
                  rintro e wg ⟨rfl, hbn⟩
                  have HTG := Lib.hid (HTF.out.below hbn)
                  replace hHeld := cell_b hbn hHeld
                  refine hK.out _ _ hHeld (fun hHeld => ?_)
                  clear hK K hbn
                  have HOR := Lib.hid (isC_or _ _ HTF.out.il.isc HOF.out)
                  obtain ⟨t0, t1, t2, t3, ht⟩ := isC_words _ HOR.out
                  rw [ht] at HMCC HOR
                  rw [ht, show row64 [t0, t1, t2, t3] = #[.int .u64 (t0 : Int), .int .u64 (t1 : Int), .int .u64 (t2 : Int), .int .u64 (t3 : Int)] from rfl]
                  clear ht
                  have HB7 : Hid (wg.heap[g7]? = some (.cells #[.int .u64 (m0 : Int), .int .u64 (m1 : Int), .int .u64 (m2 : Int), .int .u64 (m3 : Int)] TCl (0, 0))) := Lib.hid HTG.out.il.b7
                  refine wpAnyH_ready (rs := [6]) (by kernel_rfl) (by simp) ?_
                  refine AllReadyH.cons rfl (fun K hK => ?_) AllReadyH.nil
                  refine wp_store_row TCl _ _ rfl g7 #[.int .u64 (t0 : Int), .int .u64 (t1 : Int), .int .u64 (t2 : Int), .int .u64 (t3 : Int)] rfl rfl TCl #[.int .u64 (m0 : Int), .int .u64 (m1 : Int), .int .u64 (m2 : Int), .int .u64 (m3 : Int)] HB7.out infoCl rfl (by kernel_rfl) ?_
                  refine hK.out _ _ (setRow_cellF hHeld HTG.out.n97) (fun hHeld => ?_)
                  clear hK K
                  refine wpAnyH_done (by kernel_rfl) ?_ _
                  have HNW : Hid (IL w (wg.setRow g7 #[.int .u64 (t0 : Int), .int .u64 (t1 : Int), .int .u64 (t2 : Int), .int .u64 (t3 : Int)]) B g7 v9 (upIt nt xs (k + 1)) (itsC (xs.take (k + 1)))) := Lib.hid (by
                    rw [HST.out, HSC.out, HMM.out, HMCC.out]
                    exact HTG.out.il.store [t0, t1, t2, t3] HOR.out)
                  go_wp2_with fail
                  go_roundw
                  case rel => exact ⟨k + 1, by omega, by go_num, HNW.out⟩
                  case measure => simp [intOf]; omega
            · have HMM : Hid (itMk x = encM 46 (x.i 1)) := HMK
              have HMC2 : Hid (itC x = ofL [x.i 1]) := HMC
              have HMCC : Hid (orL [m0, m1, m2, m3] (itC x) = orL [m0, m1, m2, m3] (ofL [x.i 1])) := Lib.hid (by rw [HMC2.out])
              clear HMK HMC
              go_wp2_with fail
              refine (enclosed_any _ 46 (x.i 1)).mono ?_
              rintro e w7 ⟨ad, rfl, oe, hb⟩
              have HE := Lib.hid (oe.sm (isM_enc 46 _ (by decide) HK1.out) (by rw [enc_len]; decide))
              have HBb := Lib.hid (HB9.out.below hb)
              clear oe hb HB9 c0 c1' c2 c3
              go_upto_region 18 with (at_builtin; refine append_sm rfl (.tmp 65) (.tmp 68) rfl B _ L (encM 46 (x.i 1)) (some ad) 5 5 rfl HBb.out.il.own rfl (fun h => by cases h) HE.out (by omega) HBb.out.il.size ?_; intro v9 w8 ho hA; have HBA := Lib.hid (HBb.out.app ho hA); clear ho hA HBb HE)
              have hS : w8.drew.cell? ⟨g9, 1, none⟩ = some (.int .u8 (x.i 1)) := HBA.out.bx.cells.2.1
              have HTD := Lib.hid (HBA.out.below (Below.refl _ w8).drew)
              clear HBA
              refine wp_region_held_drew (S := fun w' => w'.cell? ⟨g9, 1, none⟩ = some (.int .u8 (x.i 1))) (by kernel_rfl) hS (fun hHeld => ?_)
              generalize w8.drew = wd at HTD hHeld ⊢
              clear hS
              refine wpAnyH_take (i := 1) (v := .pointer (some ⟨g9, 1, none⟩)) rfl (by kernel_rfl) (by kernel_rfl) (by kernel_rfl) (fun _ _ _ h => h) (Or.inl ⟨by rfl, by intro w hSw; (try dsimp only at hSw); go_simp⟩) (by assumption) ?_
              simp only [Act.put, List.getElem_toArray, List.getElem_cons_zero, List.getElem_cons_succ, List.setIfInBounds_toArray, List.set_cons_zero, List.set_cons_succ]
              refine wpAnyH_take (i := 2) (v := .int .u8 (x.i 1)) rfl (by kernel_rfl) (by kernel_rfl) (by kernel_rfl) (fun _ _ _ h => h) (Or.inl ⟨by rfl, by intro w hSw; (try dsimp only at hSw); go_simp⟩) (by assumption) ?_
              simp only [Act.put, List.getElem_toArray, List.getElem_cons_zero, List.getElem_cons_succ, List.setIfInBounds_toArray, List.set_cons_zero, List.set_cons_succ]
              refine wpAnyH_ready (rs := [0, 3]) (by kernel_rfl) (by simp) ?_
              refine AllReadyH.cons rfl (fun K hK => ?_) (AllReadyH.cons rfl (fun K hK => ?_) AllReadyH.nil)
              · obtain ⟨e0, e1, e2, e3⟩ := cells4n (show wd.heap[g7]? = some (.cells #[.int .u64 (m0 : Int), .int .u64 (m1 : Int), .int .u64 (m2 : Int), .int .u64 (m3 : Int)] TCl (0, 0)) from HTD.out.il.b7)
                go_simp
                clear e0 e1 e2 e3
                refine hK.out _ _ hHeld (fun hHeld => ?_)
                clear hK K
                refine wpAnyH_ready (rs := [3]) (by kernel_rfl) (by simp) ?_
                refine AllReadyH.cons rfl (fun K hK => ?_) AllReadyH.nil
                go_simp
                have hbn := box1 wd (.cells #[.int .u8 (x.i 1)] 5)
                have HSB := Lib.hid (SB.lit wd 5 [x.i 1] #[.int .u8 (x.i 1)] (0, 0) 1 rfl (by have := HK1.out; simp; omega) (by simp))
                have HTE := Lib.hid (HTD.out.below hbn)
                replace hHeld := cell_b hbn hHeld
                generalize wd.heap.size = gs at HSB ⊢
                generalize wd.alloc (.cells #[.int .u8 (x.i 1)] 5) = we at HSB HTE hHeld hbn ⊢
                refine hK.out _ _ hHeld (fun hHeld => ?_)
                clear hK K hbn
                refine wpAnyH_ready (rs := [4]) (by kernel_rfl) (by simp) ?_
                refine AllReadyH.cons rfl (fun K hK => ?_) AllReadyH.nil
                go_simp
                refine (of_any _ _ [x.i 1] HSB.out).mono ?_
                rintro e wf ⟨rfl, hbn⟩
                have HTF := Lib.hid (HTE.out.below hbn)
                replace hHeld := cell_b hbn hHeld
                refine hK.out _ _ hHeld (fun hHeld => ?_)
                clear hK K hbn
                have HOF := Lib.hid (isC_ofL [x.i 1])
                obtain ⟨r0, r1, r2, r3, hu⟩ := isC_words _ HOF.out
                rw [hu] at HMCC HOF
                rw [hu, show row64 [r0, r1, r2, r3] = #[.int .u64 (r0 : Int), .int .u64 (r1 : Int), .int .u64 (r2 : Int), .int .u64 (r3 : Int)] from rfl]
                clear hu
                refine wpAnyH_ready (rs := [5]) (by kernel_rfl) (by simp) ?_
                refine AllReadyH.cons rfl (fun K hK => ?_) AllReadyH.nil
                go_simp
                refine (or_any _ [m0, m1, m2, m3] [r0, r1, r2, r3] HTF.out.il.isc HOF.out).mono ?_
                rintro e wg ⟨rfl, hbn⟩
                have HTG := Lib.hid (HTF.out.below hbn)
                replace hHeld := cell_b hbn hHeld
                refine hK.out _ _ hHeld (fun hHeld => ?_)
                clear hK K hbn
                have HOR := Lib.hid (isC_or _ _ HTF.out.il.isc HOF.out)
                obtain ⟨t0, t1, t2, t3, ht⟩ := isC_words _ HOR.out
                rw [ht] at HMCC HOR
                rw [ht, show row64 [t0, t1, t2, t3] = #[.int .u64 (t0 : Int), .int .u64 (t1 : Int), .int .u64 (t2 : Int), .int .u64 (t3 : Int)] from rfl]
                clear ht
                have HB7 : Hid (wg.heap[g7]? = some (.cells #[.int .u64 (m0 : Int), .int .u64 (m1 : Int), .int .u64 (m2 : Int), .int .u64 (m3 : Int)] TCl (0, 0))) := Lib.hid HTG.out.il.b7
                refine wpAnyH_ready (rs := [6]) (by kernel_rfl) (by simp) ?_
                refine AllReadyH.cons rfl (fun K hK => ?_) AllReadyH.nil
                refine wp_store_row TCl _ _ rfl g7 #[.int .u64 (t0 : Int), .int .u64 (t1 : Int), .int .u64 (t2 : Int), .int .u64 (t3 : Int)] rfl rfl TCl #[.int .u64 (m0 : Int), .int .u64 (m1 : Int), .int .u64 (m2 : Int), .int .u64 (m3 : Int)] HB7.out infoCl rfl (by kernel_rfl) ?_
                refine hK.out _ _ (setRow_cellF hHeld HTG.out.n97) (fun hHeld => ?_)
                clear hK K
                refine wpAnyH_done (by kernel_rfl) ?_ _
                have HNW : Hid (IL w (wg.setRow g7 #[.int .u64 (t0 : Int), .int .u64 (t1 : Int), .int .u64 (t2 : Int), .int .u64 (t3 : Int)]) B g7 v9 (upIt nt xs (k + 1)) (itsC (xs.take (k + 1)))) := Lib.hid (by
                  rw [HST.out, HSC.out, HMM.out, HMCC.out]
                  exact HTG.out.il.store [t0, t1, t2, t3] HOR.out)
                go_wp2_with fail
                go_roundw
                case rel => exact ⟨k + 1, by omega, by go_num, HNW.out⟩
                case measure => simp [intOf]; omega
              · go_simp
                have hbn := box1 wd (.cells #[.int .u8 (x.i 1)] 5)
                have HSB := Lib.hid (SB.lit wd 5 [x.i 1] #[.int .u8 (x.i 1)] (0, 0) 1 rfl (by have := HK1.out; simp; omega) (by simp))
                have HTE := Lib.hid (HTD.out.below hbn)
                replace hHeld := cell_b hbn hHeld
                generalize wd.heap.size = gs at HSB ⊢
                generalize wd.alloc (.cells #[.int .u8 (x.i 1)] 5) = we at HSB HTE hHeld hbn ⊢
                refine hK.out _ _ hHeld (fun hHeld => ?_)
                clear hK K hbn
                refine wpAnyH_ready (rs := [0, 4]) (by kernel_rfl) (by simp) ?_
                refine AllReadyH.cons rfl (fun K hK => ?_) (AllReadyH.cons rfl (fun K hK => ?_) AllReadyH.nil)
                · obtain ⟨e0, e1, e2, e3⟩ := cells4n (show we.heap[g7]? = some (.cells #[.int .u64 (m0 : Int), .int .u64 (m1 : Int), .int .u64 (m2 : Int), .int .u64 (m3 : Int)] TCl (0, 0)) from HTE.out.il.b7)
                  go_simp
                  clear e0 e1 e2 e3
                  refine hK.out _ _ hHeld (fun hHeld => ?_)
                  clear hK K
                  refine wpAnyH_ready (rs := [4]) (by kernel_rfl) (by simp) ?_
                  refine AllReadyH.cons rfl (fun K hK => ?_) AllReadyH.nil
                  go_simp
                  refine (of_any _ _ [x.i 1] HSB.out).mono ?_
                  rintro e wf ⟨rfl, hbn⟩
                  have HTF := Lib.hid (HTE.out.below hbn)
                  replace hHeld := cell_b hbn hHeld
                  refine hK.out _ _ hHeld (fun hHeld => ?_)
                  clear hK K hbn
                  have HOF := Lib.hid (isC_ofL [x.i 1])
                  obtain ⟨r0, r1, r2, r3, hu⟩ := isC_words _ HOF.out
                  rw [hu] at HMCC HOF
                  rw [hu, show row64 [r0, r1, r2, r3] = #[.int .u64 (r0 : Int), .int .u64 (r1 : Int), .int .u64 (r2 : Int), .int .u64 (r3 : Int)] from rfl]
                  clear hu
                  refine wpAnyH_ready (rs := [5]) (by kernel_rfl) (by simp) ?_
                  refine AllReadyH.cons rfl (fun K hK => ?_) AllReadyH.nil
                  go_simp
                  refine (or_any _ [m0, m1, m2, m3] [r0, r1, r2, r3] HTF.out.il.isc HOF.out).mono ?_
                  rintro e wg ⟨rfl, hbn⟩
                  have HTG := Lib.hid (HTF.out.below hbn)
                  replace hHeld := cell_b hbn hHeld
                  refine hK.out _ _ hHeld (fun hHeld => ?_)
                  clear hK K hbn
                  have HOR := Lib.hid (isC_or _ _ HTF.out.il.isc HOF.out)
                  obtain ⟨t0, t1, t2, t3, ht⟩ := isC_words _ HOR.out
                  rw [ht] at HMCC HOR
                  rw [ht, show row64 [t0, t1, t2, t3] = #[.int .u64 (t0 : Int), .int .u64 (t1 : Int), .int .u64 (t2 : Int), .int .u64 (t3 : Int)] from rfl]
                  clear ht
                  have HB7 : Hid (wg.heap[g7]? = some (.cells #[.int .u64 (m0 : Int), .int .u64 (m1 : Int), .int .u64 (m2 : Int), .int .u64 (m3 : Int)] TCl (0, 0))) := Lib.hid HTG.out.il.b7
                  refine wpAnyH_ready (rs := [6]) (by kernel_rfl) (by simp) ?_
                  refine AllReadyH.cons rfl (fun K hK => ?_) AllReadyH.nil
                  refine wp_store_row TCl _ _ rfl g7 #[.int .u64 (t0 : Int), .int .u64 (t1 : Int), .int .u64 (t2 : Int), .int .u64 (t3 : Int)] rfl rfl TCl #[.int .u64 (m0 : Int), .int .u64 (m1 : Int), .int .u64 (m2 : Int), .int .u64 (m3 : Int)] HB7.out infoCl rfl (by kernel_rfl) ?_
                  refine hK.out _ _ (setRow_cellF hHeld HTG.out.n97) (fun hHeld => ?_)
                  clear hK K
                  refine wpAnyH_done (by kernel_rfl) ?_ _
                  have HNW : Hid (IL w (wg.setRow g7 #[.int .u64 (t0 : Int), .int .u64 (t1 : Int), .int .u64 (t2 : Int), .int .u64 (t3 : Int)]) B g7 v9 (upIt nt xs (k + 1)) (itsC (xs.take (k + 1)))) := Lib.hid (by
                    rw [HST.out, HSC.out, HMM.out, HMCC.out]
                    exact HTG.out.il.store [t0, t1, t2, t3] HOR.out)
                  go_wp2_with fail
                  go_roundw
                  case rel => exact ⟨k + 1, by omega, by go_num, HNW.out⟩
                  case measure => simp [intOf]; omega
                · go_simp
                  refine (of_any _ _ [x.i 1] HSB.out).mono ?_
                  rintro e wf ⟨rfl, hbn⟩
                  have HTF := Lib.hid (HTE.out.below hbn)
                  replace hHeld := cell_b hbn hHeld
                  refine hK.out _ _ hHeld (fun hHeld => ?_)
                  clear hK K hbn
                  have HOF := Lib.hid (isC_ofL [x.i 1])
                  obtain ⟨r0, r1, r2, r3, hu⟩ := isC_words _ HOF.out
                  rw [hu] at HMCC HOF
                  rw [hu, show row64 [r0, r1, r2, r3] = #[.int .u64 (r0 : Int), .int .u64 (r1 : Int), .int .u64 (r2 : Int), .int .u64 (r3 : Int)] from rfl]
                  clear hu
                  refine wpAnyH_ready (rs := [0]) (by kernel_rfl) (by simp) ?_
                  refine AllReadyH.cons rfl (fun K hK => ?_) AllReadyH.nil
                  obtain ⟨e0, e1, e2, e3⟩ := cells4n (show wf.heap[g7]? = some (.cells #[.int .u64 (m0 : Int), .int .u64 (m1 : Int), .int .u64 (m2 : Int), .int .u64 (m3 : Int)] TCl (0, 0)) from HTF.out.il.b7)
                  go_simp
                  clear e0 e1 e2 e3
                  refine hK.out _ _ hHeld (fun hHeld => ?_)
                  clear hK K
                  refine wpAnyH_ready (rs := [5]) (by kernel_rfl) (by simp) ?_
                  refine AllReadyH.cons rfl (fun K hK => ?_) AllReadyH.nil
                  go_simp
                  refine (or_any _ [m0, m1, m2, m3] [r0, r1, r2, r3] HTF.out.il.isc HOF.out).mono ?_
                  rintro e wg ⟨rfl, hbn⟩
                  have HTG := Lib.hid (HTF.out.below hbn)
                  replace hHeld := cell_b hbn hHeld
                  refine hK.out _ _ hHeld (fun hHeld => ?_)
                  clear hK K hbn
                  have HOR := Lib.hid (isC_or _ _ HTF.out.il.isc HOF.out)
                  obtain ⟨t0, t1, t2, t3, ht⟩ := isC_words _ HOR.out
                  rw [ht] at HMCC HOR
                  rw [ht, show row64 [t0, t1, t2, t3] = #[.int .u64 (t0 : Int), .int .u64 (t1 : Int), .int .u64 (t2 : Int), .int .u64 (t3 : Int)] from rfl]
                  clear ht
                  have HB7 : Hid (wg.heap[g7]? = some (.cells #[.int .u64 (m0 : Int), .int .u64 (m1 : Int), .int .u64 (m2 : Int), .int .u64 (m3 : Int)] TCl (0, 0))) := Lib.hid HTG.out.il.b7
                  refine wpAnyH_ready (rs := [6]) (by kernel_rfl) (by simp) ?_
                  refine AllReadyH.cons rfl (fun K hK => ?_) AllReadyH.nil
                  refine wp_store_row TCl _ _ rfl g7 #[.int .u64 (t0 : Int), .int .u64 (t1 : Int), .int .u64 (t2 : Int), .int .u64 (t3 : Int)] rfl rfl TCl #[.int .u64 (m0 : Int), .int .u64 (m1 : Int), .int .u64 (m2 : Int), .int .u64 (m3 : Int)] HB7.out infoCl rfl (by kernel_rfl) ?_
                  refine hK.out _ _ (setRow_cellF hHeld HTG.out.n97) (fun hHeld => ?_)
                  clear hK K
                  refine wpAnyH_done (by kernel_rfl) ?_ _
                  have HNW : Hid (IL w (wg.setRow g7 #[.int .u64 (t0 : Int), .int .u64 (t1 : Int), .int .u64 (t2 : Int), .int .u64 (t3 : Int)]) B g7 v9 (upIt nt xs (k + 1)) (itsC (xs.take (k + 1)))) := Lib.hid (by
                    rw [HST.out, HSC.out, HMM.out, HMCC.out]
                    exact HTG.out.il.store [t0, t1, t2, t3] HOR.out)
                  go_wp2_with fail
                  go_roundw
                  case rel => exact ⟨k + 1, by omega, by go_num, HNW.out⟩
                  case measure => simp [intOf]; omega
            · have HMM : Hid (itMk x = encM 61 (x.i 1)) := HMK
              have HMC2 : Hid (itC x = ofL [x.i 1]) := HMC
              have HMCC : Hid (orL [m0, m1, m2, m3] (itC x) = orL [m0, m1, m2, m3] (ofL [x.i 1])) := Lib.hid (by rw [HMC2.out])
              clear HMK HMC
              go_wp2_with fail
              refine (enclosed_any _ 61 (x.i 1)).mono ?_
              rintro e w7 ⟨ad, rfl, oe, hb⟩
              have HE := Lib.hid (oe.sm (isM_enc 61 _ (by decide) HK1.out) (by rw [enc_len]; decide))
              have HBb := Lib.hid (HB9.out.below hb)
              clear oe hb HB9 c0 c1' c2 c3
              go_upto_region 21 with (at_builtin; refine append_sm rfl (.tmp 78) (.tmp 81) rfl B _ L (encM 61 (x.i 1)) (some ad) 5 5 rfl HBb.out.il.own rfl (fun h => by cases h) HE.out (by omega) HBb.out.il.size ?_; intro v9 w8 ho hA; have HBA := Lib.hid (HBb.out.app ho hA); clear ho hA HBb HE)
              have hS : w8.drew.cell? ⟨g9, 1, none⟩ = some (.int .u8 (x.i 1)) := HBA.out.bx.cells.2.1
              have HTD := Lib.hid (HBA.out.below (Below.refl _ w8).drew)
              clear HBA
              refine wp_region_held_drew (S := fun w' => w'.cell? ⟨g9, 1, none⟩ = some (.int .u8 (x.i 1))) (by kernel_rfl) hS (fun hHeld => ?_)
              generalize w8.drew = wd at HTD hHeld ⊢
              clear hS
              refine wpAnyH_take (i := 1) (v := .pointer (some ⟨g9, 1, none⟩)) rfl (by kernel_rfl) (by kernel_rfl) (by kernel_rfl) (fun _ _ _ h => h) (Or.inl ⟨by rfl, by intro w hSw; (try dsimp only at hSw); go_simp⟩) (by assumption) ?_
              simp only [Act.put, List.getElem_toArray, List.getElem_cons_zero, List.getElem_cons_succ, List.setIfInBounds_toArray, List.set_cons_zero, List.set_cons_succ]
              refine wpAnyH_take (i := 2) (v := .int .u8 (x.i 1)) rfl (by kernel_rfl) (by kernel_rfl) (by kernel_rfl) (fun _ _ _ h => h) (Or.inl ⟨by rfl, by intro w hSw; (try dsimp only at hSw); go_simp⟩) (by assumption) ?_
              simp only [Act.put, List.getElem_toArray, List.getElem_cons_zero, List.getElem_cons_succ, List.setIfInBounds_toArray, List.set_cons_zero, List.set_cons_succ]
              refine wpAnyH_ready (rs := [0, 3]) (by kernel_rfl) (by simp) ?_
              refine AllReadyH.cons rfl (fun K hK => ?_) (AllReadyH.cons rfl (fun K hK => ?_) AllReadyH.nil)
              · obtain ⟨e0, e1, e2, e3⟩ := cells4n (show wd.heap[g7]? = some (.cells #[.int .u64 (m0 : Int), .int .u64 (m1 : Int), .int .u64 (m2 : Int), .int .u64 (m3 : Int)] TCl (0, 0)) from HTD.out.il.b7)
                go_simp
                clear e0 e1 e2 e3
                refine hK.out _ _ hHeld (fun hHeld => ?_)
                clear hK K
                refine wpAnyH_ready (rs := [3]) (by kernel_rfl) (by simp) ?_
                refine AllReadyH.cons rfl (fun K hK => ?_) AllReadyH.nil
                go_simp
                have hbn := box1 wd (.cells #[.int .u8 (x.i 1)] 5)
                have HSB := Lib.hid (SB.lit wd 5 [x.i 1] #[.int .u8 (x.i 1)] (0, 0) 1 rfl (by have := HK1.out; simp; omega) (by simp))
                have HTE := Lib.hid (HTD.out.below hbn)
                replace hHeld := cell_b hbn hHeld
                generalize wd.heap.size = gs at HSB ⊢
                generalize wd.alloc (.cells #[.int .u8 (x.i 1)] 5) = we at HSB HTE hHeld hbn ⊢
                refine hK.out _ _ hHeld (fun hHeld => ?_)
                clear hK K hbn
                refine wpAnyH_ready (rs := [4]) (by kernel_rfl) (by simp) ?_
                refine AllReadyH.cons rfl (fun K hK => ?_) AllReadyH.nil
                go_simp
                refine (of_any _ _ [x.i 1] HSB.out).mono ?_
                rintro e wf ⟨rfl, hbn⟩
                have HTF := Lib.hid (HTE.out.below hbn)
                replace hHeld := cell_b hbn hHeld
                refine hK.out _ _ hHeld (fun hHeld => ?_)
                clear hK K hbn
                have HOF := Lib.hid (isC_ofL [x.i 1])
                obtain ⟨r0, r1, r2, r3, hu⟩ := isC_words _ HOF.out
                rw [hu] at HMCC HOF
                rw [hu, show row64 [r0, r1, r2, r3] = #[.int .u64 (r0 : Int), .int .u64 (r1 : Int), .int .u64 (r2 : Int), .int .u64 (r3 : Int)] from rfl]
                clear hu
                refine wpAnyH_ready (rs := [5]) (by kernel_rfl) (by simp) ?_
                refine AllReadyH.cons rfl (fun K hK => ?_) AllReadyH.nil
                go_simp
                refine (or_any _ [m0, m1, m2, m3] [r0, r1, r2, r3] HTF.out.il.isc HOF.out).mono ?_
                rintro e wg ⟨rfl, hbn⟩
                have HTG := Lib.hid (HTF.out.below hbn)
                replace hHeld := cell_b hbn hHeld
                refine hK.out _ _ hHeld (fun hHeld => ?_)
                clear hK K hbn
                have HOR := Lib.hid (isC_or _ _ HTF.out.il.isc HOF.out)
                obtain ⟨t0, t1, t2, t3, ht⟩ := isC_words _ HOR.out
                rw [ht] at HMCC HOR
                rw [ht, show row64 [t0, t1, t2, t3] = #[.int .u64 (t0 : Int), .int .u64 (t1 : Int), .int .u64 (t2 : Int), .int .u64 (t3 : Int)] from rfl]
                clear ht
                have HB7 : Hid (wg.heap[g7]? = some (.cells #[.int .u64 (m0 : Int), .int .u64 (m1 : Int), .int .u64 (m2 : Int), .int .u64 (m3 : Int)] TCl (0, 0))) := Lib.hid HTG.out.il.b7
                refine wpAnyH_ready (rs := [6]) (by kernel_rfl) (by simp) ?_
                refine AllReadyH.cons rfl (fun K hK => ?_) AllReadyH.nil
                refine wp_store_row TCl _ _ rfl g7 #[.int .u64 (t0 : Int), .int .u64 (t1 : Int), .int .u64 (t2 : Int), .int .u64 (t3 : Int)] rfl rfl TCl #[.int .u64 (m0 : Int), .int .u64 (m1 : Int), .int .u64 (m2 : Int), .int .u64 (m3 : Int)] HB7.out infoCl rfl (by kernel_rfl) ?_
                refine hK.out _ _ (setRow_cellF hHeld HTG.out.n97) (fun hHeld => ?_)
                clear hK K
                refine wpAnyH_done (by kernel_rfl) ?_ _
                have HNW : Hid (IL w (wg.setRow g7 #[.int .u64 (t0 : Int), .int .u64 (t1 : Int), .int .u64 (t2 : Int), .int .u64 (t3 : Int)]) B g7 v9 (upIt nt xs (k + 1)) (itsC (xs.take (k + 1)))) := Lib.hid (by
                  rw [HST.out, HSC.out, HMM.out, HMCC.out]
                  exact HTG.out.il.store [t0, t1, t2, t3] HOR.out)
                go_wp2_with fail
                go_roundw
                case rel => exact ⟨k + 1, by omega, by go_num, HNW.out⟩
                case measure => simp [intOf]; omega
              · go_simp
                have hbn := box1 wd (.cells #[.int .u8 (x.i 1)] 5)
                have HSB := Lib.hid (SB.lit wd 5 [x.i 1] #[.int .u8 (x.i 1)] (0, 0) 1 rfl (by have := HK1.out; simp; omega) (by simp))
                have HTE := Lib.hid (HTD.out.below hbn)
                replace hHeld := cell_b hbn hHeld
                generalize wd.heap.size = gs at HSB ⊢
                generalize wd.alloc (.cells #[.int .u8 (x.i 1)] 5) = we at HSB HTE hHeld hbn ⊢
                refine hK.out _ _ hHeld (fun hHeld => ?_)
                clear hK K hbn
                refine wpAnyH_ready (rs := [0, 4]) (by kernel_rfl) (by simp) ?_
                refine AllReadyH.cons rfl (fun K hK => ?_) (AllReadyH.cons rfl (fun K hK => ?_) AllReadyH.nil)
                · obtain ⟨e0, e1, e2, e3⟩ := cells4n (show we.heap[g7]? = some (.cells #[.int .u64 (m0 : Int), .int .u64 (m1 : Int), .int .u64 (m2 : Int), .int .u64 (m3 : Int)] TCl (0, 0)) from HTE.out.il.b7)
                  go_simp
                  clear e0 e1 e2 e3
                  refine hK.out _ _ hHeld (fun hHeld => ?_)
                  clear hK K
                  refine wpAnyH_ready (rs := [4]) (by kernel_rfl) (by simp) ?_
                  refine AllReadyH.cons rfl (fun K hK => ?_) AllReadyH.nil
                  go_simp
                  refine (of_any _ _ [x.i 1] HSB.out).mono ?_
                  rintro e wf ⟨rfl, hbn⟩
                  have HTF := Lib.hid (HTE.out.below hbn)
                  replace hHeld := cell_b hbn hHeld
                  refine hK.out _ _ hHeld (fun hHeld => ?_)
                  clear hK K hbn
                  have HOF := Lib.hid (isC_ofL [x.i 1])
                  obtain ⟨r0, r1, r2, r3, hu⟩ := isC_words _ HOF.out
                  rw [hu] at HMCC HOF
                  rw [hu, show row64 [r0, r1, r2, r3] = #[.int .u64 (r0 : Int), .int .u64 (r1 : Int), .int .u64 (r2 : Int), .int .u64 (r3 : Int)] from rfl]
                  clear hu
                  refine wpAnyH_ready (rs := [5]) (by kernel_rfl) (by simp) ?_
                  refine AllReadyH.cons rfl (fun K hK => ?_) AllReadyH.nil
                  go_simp
                  refine (or_any _ [m0, m1, m2, m3] [r0, r1, r2, r3] HTF.out.il.isc HOF.out).mono ?_
                  rintro e wg ⟨rfl, hbn⟩
                  have HTG := Lib.hid (HTF.out.below hbn)
                  replace hHeld := cell_b hbn hHeld
                  refine hK.out _ _ hHeld (fun hHeld => ?_)
                  clear hK K hbn
                  have HOR := Lib.hid (isC_or _ _ HTF.out.il.isc HOF.out)
                  obtain ⟨t0, t1, t2, t3, ht⟩ := isC_words _ HOR.out
                  rw [ht] at HMCC HOR
                  rw [ht, show row64 [t0, t1, t2, t3] = #[.int .u64 (t0 : Int), .int .u64 (t1 : Int), .int .u64 (t2 : Int), .int .u64 (t3 : Int)] from rfl]
                  clear ht
                  have HB7 : Hid (wg.heap[g7]? = some (.cells #[.int .u64 (m0 : Int), .int .u64 (m1 : Int), .int .u64 (m2 : Int), .int .u64 (m3 : Int)] TCl (0, 0))) := Lib.hid HTG.out.il.b7
                  refine wpAnyH_ready (rs := [6]) (by kernel_rfl) (by simp) ?_
                  refine AllReadyH.cons rfl (fun K hK => ?_) AllReadyH.nil
                  refine wp_store_row TCl _ _ rfl g7 #[.int .u64 (t0 : Int), .int .u64 (t1 : Int), .int .u64 (t2 : Int), .int .u64 (t3 : Int)] rfl rfl TCl #[.int .u64 (m0 : Int), .int .u64 (m1 : Int), .int .u64 (m2 : Int), .int .u64 (m3 : Int)] HB7.out infoCl rfl (by kernel_rfl) ?_
                  refine hK.out _ _ (setRow_cellF hHeld HTG.out.n97) (fun hHeld => ?_)
                  clear hK K
                  refine wpAnyH_done (by kernel_rfl) ?_ _
                  have HNW : Hid (IL w (wg.setRow g7 #[.int .u64 (t0 : Int), .int .u64 (t1 : Int), .int .u64 (t2 : Int), .int .u64 (t3 : Int)]) B g7 v9 (upIt nt xs (k + 1)) (itsC (xs.take (k + 1)))) := Lib.hid (by
                    rw [HST.out, HSC.out, HMM.out, HMCC.out]
                    exact HTG.out.il.store [t0, t1, t2, t3] HOR.out)
                  go_wp2_with fail
                  go_roundw
                  case rel => exact ⟨k + 1, by omega, by go_num, HNW.out⟩
                  case measure => simp [intOf]; omega
                · go_simp
                  refine (of_any _ _ [x.i 1] HSB.out).mono ?_
                  rintro e wf ⟨rfl, hbn⟩
                  have HTF := Lib.hid (HTE.out.below hbn)
                  replace hHeld := cell_b hbn hHeld
                  refine hK.out _ _ hHeld (fun hHeld => ?_)
                  clear hK K hbn
                  have HOF := Lib.hid (isC_ofL [x.i 1])
                  obtain ⟨r0, r1, r2, r3, hu⟩ := isC_words _ HOF.out
                  rw [hu] at HMCC HOF
                  rw [hu, show row64 [r0, r1, r2, r3] = #[.int .u64 (r0 : Int), .int .u64 (r1 : Int), .int .u64 (r2 : Int), .int .u64 (r3 : Int)] from rfl]
                  clear hu
                  refine wpAnyH_ready (rs := [0]) (by kernel_rfl) (by simp) ?_
                  refine AllReadyH.cons rfl (fun K hK => ?_) AllReadyH.nil
                  obtain ⟨e0, e1, e2, e3⟩ := cells4n (show wf.heap[g7]? = some (.cells #[.int .u64 (m0 : Int), .int .u64 (m1 : Int), .int .u64 (m2 : Int), .int .u64 (m3 : Int)] TCl (0, 0)) from HTF.out.il.b7)
                  go_simp
                  clear e0 e1 e2 e3
                  refine hK.out _ _ hHeld (fun hHeld => ?_)
                  clear hK K
                  refine wpAnyH_ready (rs := [5]) (by kernel_rfl) (by simp) ?_
                  refine AllReadyH.cons rfl (fun K hK => ?_) AllReadyH.nil
                  go_simp
                  refine (or_any _ [m0, m1, m2, m3] [r0, r1, r2, r3] HTF.out.il.isc HOF.out).mono ?_
                  rintro e wg ⟨rfl, hbn⟩
                  have HTG := Lib.hid (HTF.out.below hbn)
                  replace hHeld := cell_b hbn hHeld
                  refine hK.out _ _ hHeld (fun hHeld => ?_)
                  clear hK K hbn
                  have HOR := Lib.hid (isC_or _ _ HTF.out.il.isc HOF.out)
                  obtain ⟨t0, t1, t2, t3, ht⟩ := isC_words _ HOR.out
                  rw [ht] at HMCC HOR
                  rw [ht, show row64 [t0, t1, t2, t3] = #[.int .u64 (t0 : Int), .int .u64 (t1 : Int), .int .u64 (t2 : Int), .int .u64 (t3 : Int)] from rfl]
                  clear ht
                  have HB7 : Hid (wg.heap[g7]? = some (.cells #[.int .u64 (m0 : Int), .int .u64 (m1 : Int), .int .u64 (m2 : Int), .int .u64 (m3 : Int)] TCl (0, 0))) := Lib.hid HTG.out.il.b7
                  refine wpAnyH_ready (rs := [6]) (by kernel_rfl) (by simp) ?_
                  refine AllReadyH.cons rfl (fun K hK => ?_) AllReadyH.nil
                  refine wp_store_row TCl _ _ rfl g7 #[.int .u64 (t0 : Int), .int .u64 (t1 : Int), .int .u64 (t2 : Int), .int .u64 (t3 : Int)] rfl rfl TCl #[.int .u64 (m0 : Int), .int .u64 (m1 : Int), .int .u64 (m2 : Int), .int .u64 (m3 : Int)] HB7.out infoCl rfl (by kernel_rfl) ?_
                  refine hK.out _ _ (setRow_cellF hHeld HTG.out.n97) (fun hHeld => ?_)
                  clear hK K
                  refine wpAnyH_done (by kernel_rfl) ?_ _
                  have HNW : Hid (IL w (wg.setRow g7 #[.int .u64 (t0 : Int), .int .u64 (t1 : Int), .int .u64 (t2 : Int), .int .u64 (t3 : Int)]) B g7 v9 (upIt nt xs (k + 1)) (itsC (xs.take (k + 1)))) := Lib.hid (by
                    rw [HST.out, HSC.out, HMM.out, HMCC.out]
                    exact HTG.out.il.store [t0, t1, t2, t3] HOR.out)
                  go_wp2_with fail
                  go_roundw
                  case rel => exact ⟨k + 1, by omega, by go_num, HNW.out⟩
                  case measure => simp [intOf]; omega
            · obtain ⟨lo, hlo⟩ : ∃ lo : Nat, itLo x = (lo : Int) := ⟨(itLo x).toNat, by have := HK1.out; have := HK2.out; unfold itLo; split <;> omega⟩
              obtain ⟨hi, hhi⟩ : ∃ hi : Nat, itHi x = (hi : Int) := ⟨(itHi x).toNat, by have := HK1.out; have := HK2.out; unfold itHi; split <;> omega⟩
              have hlo2 : lo < 256 := by have := HK1.out; have := HK2.out; unfold itLo at hlo; split at hlo <;> omega
              have hhi2 : hi < 256 := by have := HK1.out; have := HK2.out; unfold itHi at hhi; split at hhi <;> omega
              have HMM0 : Hid (itMk x = encM 46 (itLo x) ++ (45, false) :: encM 46 (itHi x)) := HMK
              have HMC2 : Hid (itC x = rangeL (itLo x).toNat (itHi x).toNat) := HMC
              have HMCC : Hid (orL [m0, m1, m2, m3] (itC x) = orL [m0, m1, m2, m3] (rangeL lo hi)) := Lib.hid (by rw [HMC2.out, hlo, hhi]; simp)
              have HMM : Hid (itMk x = encM 46 (lo : Int) ++ (45, false) :: encM 46 (hi : Int)) := Lib.hid (by rw [HMM0.out, hlo, hhi])
              have HLH : Hid (itLo x = (lo : Int) ∧ itHi x = (hi : Int)) := Lib.hid ⟨hlo, hhi⟩
              clear HMK HMC HMM0 HMC2 hlo hhi
              go_upto_region 23 with fail
              have HDD := Lib.hid (fun q => HB9.out.below (below_drewN (Below.refl _ _) q))
              go_quiet (fail)
              clear c0 c1' c2 c3
              have HB9 := Lib.hid (HDD.out nq)
              clear HDD
              generalize World.drewN _ nq = w7 at HB9 ⊢
              go_upto_region 24 with fail
              go_upto_if 97 with fail
              go_cut [10, 11] (fun va vb wx => va = .int .u8 (lo : Int) ∧ vb = .int .u8 (hi : Int) ∧ w7 = wx)
              case first =>
                by_cases hsw : x.i 2 < x.i 1
                · have hd : decide (x.i 2 < x.i 1) = true := decide_eq_true hsw
                  have e1 : x.i 2 = (lo : Int) := by rw [← HLH.out.1]; unfold itLo; rw [if_pos hsw]
                  have e2 : x.i 1 = (hi : Int) := by rw [← HLH.out.2]; unfold itHi; rw [if_pos hsw]
                  have E1 := Lib.hid e1
                  have E2 := Lib.hid e2
                  clear e1 e2
                  go_wp2_with fail
                  go_meet
                  case rel => exact ⟨by rw [← E1.out], by rw [← E2.out], rfl⟩
                · have hd : decide (x.i 2 < x.i 1) = false := decide_eq_false hsw
                  have e1 : x.i 1 = (lo : Int) := by rw [← HLH.out.1]; unfold itLo; rw [if_neg hsw]
                  have e2 : x.i 2 = (hi : Int) := by rw [← HLH.out.2]; unfold itHi; rw [if_neg hsw]
                  have E1 := Lib.hid e1
                  have E2 := Lib.hid e2
                  clear e1 e2
                  go_wp2_with fail
                  go_meet
                  case rel => exact ⟨by rw [← E1.out], by rw [← E2.out], rfl⟩
              case rest =>
                obtain ⟨rfl, rfl, rfl⟩ := hcut
                go_wp2_with fail
                refine (enclosed_any _ 46 (lo : Int)).mono ?_
                rintro e w8 ⟨ad, rfl, oe, hb⟩
                have HE := Lib.hid (oe.sm (isM_enc 46 _ (by decide) (by omega)) (by rw [enc_len]; decide))
                have HBb := Lib.hid (HB9.out.below hb)
                clear oe hb HB9
                go_upto_region 27 with (at_builtin; refine append_sm rfl (.tmp 100) (.tmp 102) rfl B _ L (encM 46 (lo : Int)) (some ad) 5 5 rfl HBb.out.il.own rfl (fun h => by cases h) HE.out (by omega) HBb.out.il.size ?_; intro v9 w9 ho hA; obtain ⟨X1, hX1⟩ : ∃ X1, L ++ encM 46 (lo : Int) = X1 := ⟨_, rfl⟩; have hA1 := HBb.out.app ho hA; have hl1 : X1.length ≤ 11534345 := by { rw [← hX1, List.length_append, enc_len]; omega }; rw [hX1] at hA1; have HBA := Lib.hid hA1; have HX1 := Lib.hid hX1; clear ho hA hA1 HBb HE hX1)
                have HBc := Lib.hid (HBA.out.below (box1 w9 (.cells #[.int .u8 45, .bool false] 35)))
                go_upto_region 28 with (at_builtin; refine append_mk rfl (.tmp 104) (.tmp 106) rfl B _ X1 [(45, false)] _ 1 rfl rfl rfl HBA.out.il.own rfl (by omega) HBA.out.il.size ?_; intro v9 w10 ho hA; obtain ⟨X2, hX2⟩ : ∃ X2, X1 ++ [(45, false)] = X2 := ⟨_, rfl⟩; have hA1 := HBA.out.app ho hA; have hl2 : X2.length ≤ 11534346 := by { rw [← hX2, List.length_append, List.length_singleton]; omega }; rw [hX2] at hA1; have HBD := Lib.hid hA1; have HX2 := Lib.hid hX2; clear ho hA hA1 HBA HBc hX2)
                go_wp2_with fail
                refine (enclosed_any _ 46 (hi : Int)).mono ?_
                rintro e w11 ⟨ad2, rfl, oe, hb⟩
                have HE := Lib.hid (oe.sm (isM_enc 46 _ (by decide) (by omega)) (by rw [enc_len]; decide))
                have HBe := Lib.hid (HBD.out.below hb)
                clear oe hb HBD
                have HMM : Hid (X2 ++ encM 46 (hi : Int) = L ++ itMk x) := Lib.hid (by rw [HMM.out, ← HX2.out, ← HX1.out]; simp)
                go_upto_region 29 with (at_builtin; refine append_sm rfl (.tmp 108) (.tmp 110) rfl B _ X2 (encM 46 (hi : Int)) (some ad2) 5 5 rfl HBe.out.il.own rfl (fun h => by cases h) HE.out (by omega) HBe.out.il.size ?_; intro v9 w12 ho hA; have hA1 := HBe.out.app ho hA; rw [HMM.out] at hA1; have HBA := Lib.hid hA1; clear ho hA hA1 HBe HE)
                have HTD := Lib.hid (HBA.out.below (Below.refl _ w12).drew)
                clear HBA
                refine wp_region_held_drew (S := fun w' => True) (by kernel_rfl) trivial (fun hHeld => ?_)
                generalize w12.drew = wd at HTD hHeld ⊢
                refine wpAnyH_take (i := 1) (v := .int .u8 (lo : Int)) rfl (by kernel_rfl) (by kernel_rfl) (by kernel_rfl) (fun _ _ _ h => h) (Or.inl ⟨by rfl, by intro w hSw; (try dsimp only at hSw); go_simp⟩) (by assumption) ?_
                simp only [Act.put, List.getElem_toArray, List.getElem_cons_zero, List.getElem_cons_succ, List.setIfInBounds_toArray, List.set_cons_zero, List.set_cons_succ]
                refine wpAnyH_take (i := 2) (v := .int .u8 (hi : Int)) rfl (by kernel_rfl) (by kernel_rfl) (by kernel_rfl) (fun _ _ _ h => h) (Or.inl ⟨by rfl, by intro w hSw; (try dsimp only at hSw); go_simp⟩) (by assumption) ?_
                simp only [Act.put, List.getElem_toArray, List.getElem_cons_zero, List.getElem_cons_succ, List.setIfInBounds_toArray, List.set_cons_zero, List.set_cons_succ]
                refine wpAnyH_ready (rs := [0, 3]) (by kernel_rfl) (by simp) ?_
                refine AllReadyH.cons rfl (fun K hK => ?_) (AllReadyH.cons rfl (fun K hK => ?_) AllReadyH.nil)
                · obtain ⟨e0, e1, e2, e3⟩ := cells4n (show wd.heap[g7]? = some (.cells #[.int .u64 (m0 : Int), .int .u64 (m1 : Int), .int .u64 (m2 : Int), .int .u64 (m3 : Int)] TCl (0, 0)) from HTD.out.il.b7)
                  go_simp
                  clear e0 e1 e2 e3
                  refine hK.out _ _ trivial (fun hHeld => ?_)
                  clear hK K
                  refine wpAnyH_ready (rs := [3]) (by kernel_rfl) (by simp) ?_
                  refine AllReadyH.cons rfl (fun K hK => ?_) AllReadyH.nil
                  go_simp
                  refine (range_any _ lo hi hlo2 hhi2).mono ?_
                  rintro e wf ⟨rfl, hbn⟩
                  have HTF := Lib.hid (HTD.out.below hbn)
                  refine hK.out _ _ trivial (fun hHeld => ?_)
                  clear hK K hbn
                  have HOF := Lib.hid (isC_rangeL lo hi)
                  obtain ⟨r0, r1, r2, r3, hu⟩ := isC_words _ HOF.out
                  rw [hu] at HMCC HOF
                  rw [hu, show row64 [r0, r1, r2, r3] = #[.int .u64 (r0 : Int), .int .u64 (r1 : Int), .int .u64 (r2 : Int), .int .u64 (r3 : Int)] from rfl]
                  clear hu
                  refine wpAnyH_ready (rs := [4]) (by kernel_rfl) (by simp) ?_
                  refine AllReadyH.cons rfl (fun K hK => ?_) AllReadyH.nil
                  go_simp
                  refine (or_any _ [m0, m1, m2, m3] [r0, r1, r2, r3] HTF.out.il.isc HOF.out).mono ?_
                  rintro e wg ⟨rfl, hbn⟩
                  have HTG := Lib.hid (HTF.out.below hbn)
                  replace hHeld := trivial
                  refine hK.out _ _ hHeld (fun hHeld => ?_)
                  clear hK K hbn
                  have HOR := Lib.hid (isC_or _ _ HTF.out.il.isc HOF.out)
                  obtain ⟨t0, t1, t2, t3, ht⟩ := isC_words _ HOR.out
                  rw [ht] at HMCC HOR
                  rw [ht, show row64 [t0, t1, t2, t3] = #[.int .u64 (t0 : Int), .int .u64 (t1 : Int), .int .u64 (t2 : Int), .int .u64 (t3 : Int)] from rfl]
                  clear ht
                  have HB7 : Hid (wg.heap[g7]? = some (.cells #[.int .u64 (m0 : Int), .int .u64 (m1 : Int), .int .u64 (m2 : Int), .int .u64 (m3 : Int)] TCl (0, 0))) := Lib.hid HTG.out.il.b7
                  refine wpAnyH_ready (rs := [5]) (by kernel_rfl) (by simp) ?_
                  refine AllReadyH.cons rfl (fun K hK => ?_) AllReadyH.nil
                  refine wp_store_row TCl _ _ rfl g7 #[.int .u64 (t0 : Int), .int .u64 (t1 : Int), .int .u64 (t2 : Int), .int .u64 (t3 : Int)] rfl rfl TCl #[.int .u64 (m0 : Int), .int .u64 (m1 : Int), .int .u64 (m2 : Int), .int .u64 (m3 : Int)] HB7.out infoCl rfl (by kernel_rfl) ?_
                  refine hK.out _ _ (trivial) (fun hHeld => ?_)
                  clear hK K
                  refine wpAnyH_done (by kernel_rfl) ?_ _
                  have HNW : Hid (IL w (wg.setRow g7 #[.int .u64 (t0 : Int), .int .u64 (t1 : Int), .int .u64 (t2 : Int), .int .u64 (t3 : Int)]) B g7 v9 (upIt nt xs (k + 1)) (itsC (xs.take (k + 1)))) := Lib.hid (by
                    rw [HST.out, HSC.out, HMCC.out]
                    exact HTG.out.il.store [t0, t1, t2, t3] HOR.out)
                  go_wp2_with fail
                  go_roundw
                  case rel => exact ⟨k + 1, by omega, by go_num, HNW.out⟩
                  case measure => simp [intOf]; omega
                · go_simp
                  refine (range_any _ lo hi hlo2 hhi2).mono ?_
                  rintro e wf ⟨rfl, hbn⟩
                  have HTF := Lib.hid (HTD.out.below hbn)
                  refine hK.out _ _ trivial (fun hHeld => ?_)
                  clear hK K hbn
                  have HOF := Lib.hid (isC_rangeL lo hi)
                  obtain ⟨r0, r1, r2, r3, hu⟩ := isC_words _ HOF.out
                  rw [hu] at HMCC HOF
                  rw [hu, show row64 [r0, r1, r2, r3] = #[.int .u64 (r0 : Int), .int .u64 (r1 : Int), .int .u64 (r2 : Int), .int .u64 (r3 : Int)] from rfl]
                  clear hu
                  refine wpAnyH_ready (rs := [0]) (by kernel_rfl) (by simp) ?_
                  refine AllReadyH.cons rfl (fun K hK => ?_) AllReadyH.nil
                  obtain ⟨e0, e1, e2, e3⟩ := cells4n (show wf.heap[g7]? = some (.cells #[.int .u64 (m0 : Int), .int .u64 (m1 : Int), .int .u64 (m2 : Int), .int .u64 (m3 : Int)] TCl (0, 0)) from HTF.out.il.b7)
                  go_simp
                  clear e0 e1 e2 e3
                  refine hK.out _ _ trivial (fun hHeld => ?_)
                  clear hK K
                  refine wpAnyH_ready (rs := [4]) (by kernel_rfl) (by simp) ?_
                  refine AllReadyH.cons rfl (fun K hK => ?_) AllReadyH.nil
                  go_simp
                  refine (or_any _ [m0, m1, m2, m3] [r0, r1, r2, r3] HTF.out.il.isc HOF.out).mono ?_
                  rintro e wg ⟨rfl, hbn⟩
                  have HTG := Lib.hid (HTF.out.below hbn)
                  replace hHeld := trivial
                  refine hK.out _ _ hHeld (fun hHeld => ?_)
                  clear hK K hbn
                  have HOR := Lib.hid (isC_or _ _ HTF.out.il.isc HOF.out)
                  obtain ⟨t0, t1, t2, t3, ht⟩ := isC_words _ HOR.out
                  rw [ht] at HMCC HOR
                  rw [ht, show row64 [t0, t1, t2, t3] = #[.int .u64 (t0 : Int), .int .u64 (t1 : Int), .int .u64 (t2 : Int), .int .u64 (t3 : Int)] from rfl]
                  clear ht
                  have HB7 : Hid (wg.heap[g7]? = some (.cells #[.int .u64 (m0 : Int), .int .u64 (m1 : Int), .int .u64 (m2 : Int), .int .u64 (m3 : Int)] TCl (0, 0))) := Lib.hid HTG.out.il.b7
                  refine wpAnyH_ready (rs := [5]) (by kernel_rfl) (by simp) ?_
                  refine AllReadyH.cons rfl (fun K hK => ?_) AllReadyH.nil
                  refine wp_store_row TCl _ _ rfl g7 #[.int .u64 (t0 : Int), .int .u64 (t1 : Int), .int .u64 (t2 : Int), .int .u64 (t3 : Int)] rfl rfl TCl #[.int .u64 (m0 : Int), .int .u64 (m1 : Int), .int .u64 (m2 : Int), .int .u64 (m3 : Int)] HB7.out infoCl rfl (by kernel_rfl) ?_
                  refine hK.out _ _ (trivial) (fun hHeld => ?_)
                  clear hK K
                  refine wpAnyH_done (by kernel_rfl) ?_ _
                  have HNW : Hid (IL w (wg.setRow g7 #[.int .u64 (t0 : Int), .int .u64 (t1 : Int), .int .u64 (t2 : Int), .int .u64 (t3 : Int)]) B g7 v9 (upIt nt xs (k + 1)) (itsC (xs.take (k + 1)))) := Lib.hid (by
                    rw [HST.out, HSC.out, HMCC.out]
                    exact HTG.out.il.store [t0, t1, t2, t3] HOR.out)
                  go_wp2_with fail
                  go_roundw
                  case rel => exact ⟨k + 1, by omega, by go_num, HNW.out⟩
                  case measure => simp [intOf]; omega
            · have HMM : Hid (itMk x = nmMk (itN x)) := HMK
              have HMC2 : Hid (itC x = namedL (nmT (itN x))) := HMC
              have HMCC : Hid (orL [m0, m1, m2, m3] (itC x) = orL [m0, m1, m2, m3] (namedL (nmT (itN x)))) := Lib.hid (by rw [HMC2.out])
              have hN : withinM (x.i 3) 12 = (itN x : Int) := by have := HNB.out.1; unfold itN; omega
              have hn12 : itN x < 12 := by have := HNB.out; unfold itN; omega
              clear HMK HMC HMC2
              go_upto_region 31 with fail
              go_cut [12] (fun va wx => va = .string (nmT (itN x)) ∧ IB4 w wx B g7 g9 u6 L [m0, m1, m2, m3] x)
              case first =>
                have hS : w6.drew.cell? ⟨g9, 3, none⟩ = some (.int .i64 (x.i 3)) := c3
                have HTD := Lib.hid (HB9.out.below (Below.refl _ w6).drew)
                clear c0 c1' c2 c3 HB9
                refine wp_region_held_drew (S := fun w' => w'.cell? ⟨g9, 3, none⟩ = some (.int .i64 (x.i 3))) (by kernel_rfl) hS (fun hHeld => ?_)
                generalize w6.drew = wd at HTD hHeld ⊢
                clear hS
                refine wpAnyH_take (i := 1) (v := .pointer (some ⟨g9, 3, none⟩)) rfl (by kernel_rfl) (by kernel_rfl) (by kernel_rfl) (fun _ _ _ h => h) (Or.inl ⟨by rfl, by intro w hSw; (try dsimp only at hSw); go_simp⟩) (by assumption) ?_
                simp only [Act.put, List.getElem_toArray, List.getElem_cons_zero, List.getElem_cons_succ, List.setIfInBounds_toArray, List.set_cons_zero, List.set_cons_succ]
                refine wpAnyH_take (i := 2) (v := .int .i64 (x.i 3)) rfl (by kernel_rfl) (by kernel_rfl) (by kernel_rfl) (fun _ _ _ h => h) (Or.inl ⟨by rfl, by intro w hSw; (try dsimp only at hSw); go_simp⟩) (by assumption) ?_
                simp only [Act.put, List.getElem_toArray, List.getElem_cons_zero, List.getElem_cons_succ, List.setIfInBounds_toArray, List.set_cons_zero, List.set_cons_succ]
                refine wpAnyH_ready (rs := [0]) (by kernel_rfl) (by simp) ?_
                refine AllReadyH.cons rfl (fun K hK => ?_) AllReadyH.nil
                go_simp
                refine (names_any4 _).mono ?_
                rintro e we ⟨gn, rfl, hcn, hbn⟩
                have HTE := Lib.hid (HTD.out.below hbn)
                replace hHeld := cell_b hbn hHeld
                have HCN := Lib.hid hcn
                refine hK.out _ _ hHeld (fun hHeld => ?_)
                clear hK K hbn hcn
                refine wpAnyH_ready (rs := [3]) (by kernel_rfl) (by simp) ?_
                refine AllReadyH.cons rfl (fun K hK => ?_) AllReadyH.nil
                go_simp
                refine (within12_any _ (x.i 3) HK3.out.1 HK3.out.2).mono ?_
                rintro e wf ⟨rfl, rfl⟩
                rw [hN]
                refine hK.out _ _ hHeld (fun hHeld => ?_)
                clear hK K
                have hcell := HCN.out (itN x) hn12
                generalize hkn : itN x = kn at hn12 hcell ⊢
                have hkn1 : (kn : Int) < 12 := by omega
                have hkn2 : ¬ (12 : Int) ≤ (kn : Int) := by omega
                have HKN := Lib.hid hkn
                clear hkn
                refine wpAnyH_take (i := 4) (v := .pointer (some ⟨gn, kn, none⟩)) rfl (by kernel_rfl) (by kernel_rfl) (by kernel_rfl) (fun _ _ _ h => h) (Or.inl ⟨by rfl, by intro w hSw; (try dsimp only at hSw); go_simp⟩) (by assumption) ?_
                simp only [Act.put, List.getElem_toArray, List.getElem_cons_zero, List.getElem_cons_succ, List.setIfInBounds_toArray, List.set_cons_zero, List.set_cons_succ]
                refine wpAnyH_ready (rs := [5]) (by kernel_rfl) (by simp) ?_
                refine AllReadyH.cons rfl (fun K hK => ?_) AllReadyH.nil
                go_simp
                refine hK.out _ _ hHeld (fun hHeld => ?_)
                clear hK K
                refine wpAnyH_take (i := 6) (v := .string (nmT kn)) rfl (by kernel_rfl) (by kernel_rfl) (by kernel_rfl) (fun _ _ _ h => h) (Or.inl ⟨by rfl, by intro w hSw; (try dsimp only at hSw); go_simp⟩) (by assumption) ?_
                simp only [Act.put, List.getElem_toArray, List.getElem_cons_zero, List.getElem_cons_succ, List.setIfInBounds_toArray, List.set_cons_zero, List.set_cons_succ]
                refine wpAnyH_done (by kernel_rfl) ?_ _
                go_wp2_with fail
                go_meet
                case rel => exact ⟨by rw [HKN.out], HTE.out⟩
              case rest =>
                obtain ⟨rfl, hT⟩ := hcut
                generalize wc = w7 at hT ⊢
                have HB5 := Lib.hid hT
                clear hT HB9 c0 c1' c2 c3
                go_wp2_with fail
                refine (named_any w7 (nmT (itN x)) (nmT_size _) (HW.out.br.below HB5.out.il.bel).names).mono ?_
                rintro e w8 ⟨rfl, hb⟩
                have HB6 := Lib.hid (HB5.out.below hb)
                have HOF := Lib.hid (show IsC (namedL (nmT (itN x))) from isC_named _ 23)
                obtain ⟨r0, r1, r2, r3, hu⟩ := isC_words _ HOF.out
                obtain ⟨okb, hokb⟩ : ∃ okb, (!decide (namedL (nmT (itN x)) = noneL)) = okb := ⟨_, rfl⟩
                rw [hokb]
                rw [hu] at HMCC HOF
                rw [hu, show row64 [r0, r1, r2, r3] = #[.int .u64 (r0 : Int), .int .u64 (r1 : Int), .int .u64 (r2 : Int), .int .u64 (r3 : Int)] from rfl]
                clear hu hokb hb HB5
                have n13 := heap_alloc_new w8 (.cells #[.int .u64 (r0 : Int), .int .u64 (r1 : Int), .int .u64 (r2 : Int), .int .u64 (r3 : Int)] TCl)
                have bx13 := box1 w8 (.cells #[.int .u64 (r0 : Int), .int .u64 (r1 : Int), .int .u64 (r2 : Int), .int .u64 (r3 : Int)] TCl)
                have HB7 := Lib.hid (HB6.out.below bx13)
                go_upto_region 33 with fail
                have HN13 : Hid (w8.heap.size ≠ g7 ∧ u6.ownBlock ≠ some w8.heap.size) := Lib.hid ⟨by have := (Array.getElem?_eq_some_iff.1 HB6.out.il.b7).1; omega, fun e => by have := (World.ownsRow.lt HB6.out.il.own _ e).2; omega⟩
                generalize w8.heap.size = g13 at n13 HN13 ⊢
                generalize w8.alloc (.cells #[.int .u64 (r0 : Int), .int .u64 (r1 : Int), .int .u64 (r2 : Int), .int .u64 (r3 : Int)] TCl) = w9 at n13 HB7 ⊢
                have HC13 := Lib.hid n13
                have hsz6 := nmT_six (itN x)
                have hsA : ¬ 9223372036854775807 < 2 + (nmT (itN x)).size := by omega
                have hsB : ¬ 9223372036854775807 < 2 + (nmT (itN x)).size + 2 := by omega
                clear n13 bx13 HB6
                go_wp2_with fail
                refine (signs_any w9 _ (cat_size (itN x))).mono ?_
                rintro e w10 ⟨vs, rfl, os, hb⟩
                rw [cat_bytes] at os
                have os : OwnM w10 w9.heap.size vs (nmMk (itN x)) := os
                have hnl : (nmMk (itN x)).length ≤ 10 := nmMk_len _ hn12
                obtain ⟨ass, css, rfl, hNs⟩ := os.shape
                have HE := Lib.hid (os.sm (isM_nm _) (by omega))
                have HNs := Lib.hid hNs
                obtain ⟨nl, hnle⟩ : ∃ nl, (nmMk (itN x)).length = nl := ⟨_, rfl⟩
                rw [hnle] at HE hnl ⊢
                have HB8 := Lib.hid (HB7.out.below hb)
                have HC13b := Lib.hid (heap_b hb HC13.out)
                clear os hb HB7 HC13 hsz6 hsA hsB hNs hnle
                go_upto_region 34 with (at_builtin; refine append_sm rfl (.tmp 130) (.tmp 134) rfl B _ L (nmMk (itN x)) ass nl css rfl HB8.out.il.own rfl HNs.out HE.out (by omega) HB8.out.il.size ?_; intro v9 w11 ho hA; have HBA := Lib.hid (HB8.out.app ho hA); have HC := Lib.hid ((hA.block g13 (Array.getElem?_eq_some_iff.1 HC13b.out).1 HN13.out.2).trans HC13b.out); clear ho hA HB8 HE HC13b)
                obtain ⟨e0, e1, e2, e3⟩ := cells4n (show w11.heap[g7]? = some (.cells #[.int .u64 (m0 : Int), .int .u64 (m1 : Int), .int .u64 (m2 : Int), .int .u64 (m3 : Int)] TCl (0, 0)) from HBA.out.il.b7)
                obtain ⟨f0, f1, f2, f3⟩ := cells4n HC.out
                go_wp2_with fail
                clear e0 e1 e2 e3 f0 f1 f2 f3
                refine (or_any w11 [m0, m1, m2, m3] [r0, r1, r2, r3] HBA.out.il.isc HOF.out).mono ?_
                rintro e wg ⟨rfl, hbn⟩
                have HTG := Lib.hid (HBA.out.below hbn)
                have HOR := Lib.hid (isC_or _ _ HBA.out.il.isc HOF.out)
                obtain ⟨t0, t1, t2, t3, ht⟩ := isC_words _ HOR.out
                rw [ht] at HMCC HOR
                rw [ht, show row64 [t0, t1, t2, t3] = #[.int .u64 (t0 : Int), .int .u64 (t1 : Int), .int .u64 (t2 : Int), .int .u64 (t3 : Int)] from rfl]
                clear ht hbn HBA
                have HB7 : Hid (wg.heap[g7]? = some (.cells #[.int .u64 (m0 : Int), .int .u64 (m1 : Int), .int .u64 (m2 : Int), .int .u64 (m3 : Int)] TCl (0, 0))) := Lib.hid HTG.out.il.b7
                have HNW : Hid (IL w (wg.setRow g7 #[.int .u64 (t0 : Int), .int .u64 (t1 : Int), .int .u64 (t2 : Int), .int .u64 (t3 : Int)]) B g7 v9 (upIt nt xs (k + 1)) (itsC (xs.take (k + 1)))) := Lib.hid (by
                  rw [HST.out, HSC.out, HMM.out, HMCC.out]
                  exact HTG.out.il.store [t0, t1, t2, t3] HOR.out)
                go_wp2_with (refine wpList_store_row rfl TCl (.tmp 7) (.tmp 138) rfl rfl g7 TCl #[.int .u64 (m0 : Int), .int .u64 (m1 : Int), .int .u64 (m2 : Int), .int .u64 (m3 : Int)] #[.int .u64 (t0 : Int), .int .u64 (t1 : Int), .int .u64 (t2 : Int), .int .u64 (t3 : Int)] rfl rfl HB7.out rfl infoCl (by simp [Value.oneCell']) ?_)
                go_roundw
                case rel => exact ⟨k + 1, by omega, by go_num, HNW.out⟩
                case measure => simp [intOf]; omega
          · obtain rfl : k = n1 := by omega
            have hdl : decide ((k : Int) < (k : Int)) = false := decide_eq_false (by omega)
            have HUP : Hid (upIt nt xs k ++ [(93, false)] = brIt nt xs) := Lib.hid (by rw [brIt_up, HXL.out])
            have HTK : Hid (itsC (xs.take k) = itsC xs) := Lib.hid (by rw [List.take_of_length_le (by rw [HXL.out]; omega)])
            rw [HTK.out] at HI
            generalize upIt nt xs k = L at HI HUP hlen
            generalize itsC xs = Wl at HI HPI HTK
            obtain ⟨m0, m1, m2, m3, rfl⟩ := isC_words Wl HI.out.isc
            clear HTK
            go_upto_if 139 with fail
            go_cut [6] (fun va wx => va = u6 ∧ IL w wx B g7 u6 L (if nt = true then notL [m0, m1, m2, m3] else [m0, m1, m2, m3]))
            case first =>
              cases nt with
              | false =>
                go_wp2_with fail
                go_meet
                case rel => exact ⟨rfl, HI.out⟩
              | true =>
                obtain ⟨e0, e1, e2, e3⟩ := cells4n (show wr.heap[g7]? = some (.cells #[.int .u64 (m0 : Int), .int .u64 (m1 : Int), .int .u64 (m2 : Int), .int .u64 (m3 : Int)] TCl (0, 0)) from HI.out.b7)
                go_wp2_with fail
                clear e0 e1 e2 e3
                refine (not_any wr [m0, m1, m2, m3] HI.out.isc).mono ?_
                rintro e wg ⟨rfl, hbn⟩
                have HIg := Lib.hid (HI.out.below hbn)
                have HOR := Lib.hid (isC_not _ HI.out.isc)
                obtain ⟨t0, t1, t2, t3, ht⟩ := isC_words _ HOR.out
                have HTT := Lib.hid ht
                rw [ht] at HOR
                rw [ht, show row64 [t0, t1, t2, t3] = #[.int .u64 (t0 : Int), .int .u64 (t1 : Int), .int .u64 (t2 : Int), .int .u64 (t3 : Int)] from rfl]
                clear ht hbn HI
                have HB7 : Hid (wg.heap[g7]? = some (.cells #[.int .u64 (m0 : Int), .int .u64 (m1 : Int), .int .u64 (m2 : Int), .int .u64 (m3 : Int)] TCl (0, 0))) := Lib.hid HIg.out.b7
                go_wp2_with (refine wpList_store_row rfl TCl (.tmp 7) (.tmp 141) rfl rfl g7 TCl #[.int .u64 (m0 : Int), .int .u64 (m1 : Int), .int .u64 (m2 : Int), .int .u64 (m3 : Int)] #[.int .u64 (t0 : Int), .int .u64 (t1 : Int), .int .u64 (t2 : Int), .int .u64 (t3 : Int)] rfl rfl HB7.out rfl infoCl (by simp [Value.oneCell']) ?_)
                go_meet
                case rel => exact ⟨rfl, by rw [if_pos trivial, HTT.out]; exact HIg.out.store [t0, t1, t2, t3] HOR.out⟩
            case rest =>
              obtain ⟨rfl, hI2⟩ := hcut
              have HI2 := Lib.hid hI2
              clear hI2 HI
              generalize (if nt = true then notL [m0, m1, m2, m3] else [m0, m1, m2, m3]) = Wf at HI2 HPI
              obtain ⟨t0, t1, t2, t3, rfl⟩ := isC_words Wf HI2.out.isc
              generalize wc = w5 at HI2 ⊢
              go_upto_region 38 with (at_builtin; refine append_mk rfl (.tmp 142) (.tmp 144) rfl B _ L [(93, false)] _ 1 rfl rfl rfl HI2.out.own rfl (by omega) HI2.out.size ?_; intro v9 w6 ho hA; have hA1 := HI2.out.app ho hA; rw [HUP.out] at hA1; have HI3 := Lib.hid hA1; clear ho hA hA1 HI2)
              have hbl : (brIt nt xs).length ≤ 11534345 := by rw [← HUP.out, List.length_append, List.length_singleton]; omega
              have HSMb := Lib.hid (HI3.out.own.sm (isM_br nt xs HALL.out) (by omega))
              obtain ⟨av, cv, rfl, -⟩ := HI3.out.own.shape
              obtain ⟨bl, hble⟩ : ∃ bl, (brIt nt xs).length = bl := ⟨_, rfl⟩
              rw [hble] at HPI hbl HSMb HI3 ⊢
              clear hble
              go_wp2_with fail
              refine (parse_any w6 (HW.out.br.below HI3.out.bel) av bl cv 0 (brIt nt xs) HSMb.out).mono ?_
              rintro e w7 ⟨he, hb⟩
              rw [HPI.out] at he
              have he : e = .returned (.tuple #[.agg #[.int .u64 (t0 : Int), .int .u64 (t1 : Int), .int .u64 (t2 : Int), .int .u64 (t3 : Int)], .int .i64 (bl : Int), .int .i64 0]) := he
              subst he
              have HI4 := Lib.hid (HI3.out.below hb)
              clear hb HI3 HSMb
              go_upto_region 39 with fail
              have n15 := heap_alloc_new w7 (.cells #[.int .u64 (t0 : Int), .int .u64 (t1 : Int), .int .u64 (t2 : Int), .int .u64 (t3 : Int)] TCl)
              have bx15 := box1 w7 (.cells #[.int .u64 (t0 : Int), .int .u64 (t1 : Int), .int .u64 (t2 : Int), .int .u64 (t3 : Int)] TCl)
              have HI5 := Lib.hid (HI4.out.below bx15)
              generalize w7.heap.size = g15 at n15 ⊢
              generalize w7.alloc (.cells #[.int .u64 (t0 : Int), .int .u64 (t1 : Int), .int .u64 (t2 : Int), .int .u64 (t3 : Int)] TCl) = w8 at n15 HI5 ⊢
              obtain ⟨e0, e1, e2, e3⟩ := cells4n n15
              obtain ⟨f0, f1, f2, f3⟩ := cells4n (show w8.heap[g7]? = some (.cells #[.int .u64 (t0 : Int), .int .u64 (t1 : Int), .int .u64 (t2 : Int), .int .u64 (t3 : Int)] TCl (0, 0)) from HI5.out.b7)
              have hE : ∀ w, Sem.run Tryd.prog (Op.equalIn 10000 28 (.agg #[.int .u64 (t0 : Int), .int .u64 (t1 : Int), .int .u64 (t2 : Int), .int .u64 (t3 : Int)]) (.agg #[.int .u64 (t0 : Int), .int .u64 (t1 : Int), .int .u64 (t2 : Int), .int .u64 (t3 : Int)])) w = .ok true w := fun w => (run_equalIn_rowC w 9998 [t0, t1, t2, t3] [t0, t1, t2, t3] rfl rfl).trans (by rw [decide_eq_true rfl])
              have hbb : ((bl : Int) == (bl : Int)) = true := by simp
              clear n15 bx15 HI4
              go_wp2_with fail
              go_ret
              exact ⟨rfl, HI5.out.bel⟩
end Go.Proofs.YthegepiafodpjaaDoor
