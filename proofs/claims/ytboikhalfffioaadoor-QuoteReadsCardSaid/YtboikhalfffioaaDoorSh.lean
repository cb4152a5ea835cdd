/-
  quote.Show: its walk.
-/
import Derived.Test.YtboikhalfffioaaDoorQm
import Derived.Deep.DeepCutAuto
namespace Go.Proofs.YtboikhalfffioaaDoor
open Go.RowKit

/-- A string of the bytes. -/
def strI (l : List Int) : ByteArray := ⟨(l.map fun x => UInt8.ofNat x.toNat).toArray⟩
theorem run_strI (w : World) (a : Option Addr) (n c : Nat) (l : List Int) (h : SB w (.slice a n c) l) : (convert 23 9 (.slice a n c)).run Tryd.prog w = .ok (.string (strI l)) w := by
  cases a with
  | none =>
    have := h.ofNone
    subst this
    obtain ⟨hl, _⟩ := h.len
    simp only [List.length_nil] at hl
    subst hl
    exact run_convert_bytes_nil w 23 5 Tryd.underlying23 Tryd.underlying5 0 c 9 Tryd.underlying9
  | some ad =>
    obtain ⟨hl, hn⟩ := h.news
    have hlc := run_loadCells_list (P := Tryd.prog) w ad (l.map (Value.int .u8)) hn
    rw [List.length_map, hl] at hlc
    rw [run_convert_bytes_string w 23 9 5 _ n c Tryd.underlying23 Tryd.underlying5 Tryd.underlying9, run_bytesToString w ad n c l hlc, foldl_push_bytes]
    simp [strI, ByteArray.empty, ByteArray.emptyWithCapacity]
    rfl
theorem wid_le (l : List UInt8) (h : l ≠ []) : wid l ≤ l.length ∧ wid l ≤ (Lib.decodeL l).2 ∧ (Lib.decodeL l).2 ≤ l.length ∧ 1 ≤ (Lib.decodeL l).2 := by
  have h1 := Lib.decodeL_le l h
  have h2 := Lib.decodeL_width l
  unfold wid
  split <;> omega
theorem escL_len (x : UInt8) : (escL x).length ≤ 4 := by
  unfold escL
  repeat' split
  all_goals simp
theorem flat_len (m : List UInt8) : (m.flatMap escL).length ≤ 4 * m.length := by
  induction m with
  | nil => simp
  | cons x m ih => rw [List.flatMap_cons, List.length_append, List.length_cons]; have := escL_len x; omega
/-- The loop of Show: so far acc; the rest from pos on. -/
structure ShI (w wr : World) (B g : Nat) (s : ByteArray) (pos fuel : Nat) (acc : List UInt8) : Prop where
  bld : Bld B B acc wr
  it : wr.heap[g]? = some (.stringIter s pos)
  bel : Below B w wr
  eq : acc ++ (bodyL fuel (s.data.toList.drop pos) ++ [34]) = showL s.data.toList
  fu : s.size ≤ pos + fuel
  len : acc.length ≤ 1 + 4 * pos
  le : pos ≤ s.size
  gB : B < g
theorem ShI.size {w wr : World} {B g : Nat} {s : ByteArray} {pos fuel : Nat} {acc : List UInt8} (h : ShI w wr B g s pos fuel acc) : B ≤ wr.heap.size := by
  have := (Array.getElem?_eq_some_iff.1 h.it).1
  have := h.gB
  omega
theorem dataL (s : ByteArray) : s.data.toList.length = s.size := by rw [Array.length_toList]; rfl
theorem extract_list (s : ByteArray) (i j : Nat) : (s.extract i j).data.toList = (s.data.toList.drop i).take (j - i) := by
  simp [ByteArray.data_extract]

theorem Bld.lt {B b : Nat} {l : List UInt8} {w : World} (h : Bld B b l w) : b < w.heap.size := h.elim (fun h => h.lt) (fun h => h.lt)
/-- A builder stays one where its block and the rows of bytes stay. -/
theorem bldAt_keep {B b : Nat} {p : Value} {bs : List Value} {w w' : World} (h : Lib.BuilderAt 75 5 B b p bs w) (hk : ∀ (k : Nat) (c : Array Value) (t : TypeId) (f : Nat × Nat), w.heap[k]? = some (Obj.cells c t f) → w'.heap[k]? = some (Obj.cells c t f)) : Lib.BuilderAt 75 5 B b p bs w' := by
  obtain ⟨hB, v, hb, ho, hne⟩ := h
  refine ⟨hB, v, hk _ _ _ _ hb, ⟨ho.1, ?_⟩, hne⟩
  rcases ho.2 with hn | ⟨g, cap, cur, hv, hbg, hg, rest⟩
  · exact .inl hn
  · exact .inr ⟨g, cap, cur, hv, hbg, hk _ _ _ _ hg, rest⟩
theorem Bld.keep {B b : Nat} {l : List UInt8} {w w' : World} (h : Bld B b l w) (hk : ∀ (k : Nat) (c : Array Value) (t : TypeId) (f : Nat × Nat), w.heap[k]? = some (Obj.cells c t f) → w'.heap[k]? = some (Obj.cells c t f)) : Bld B b l w' :=
  h.elim (fun h => .inl (bldAt_keep h hk)) (fun h => .inr (bldAt_keep h hk))
theorem Bld.alloc {B b : Nat} {l : List UInt8} {w : World} (h : Bld B b l w) (o : Obj) : Bld B b l (w.alloc o) :=
  Bld.keep h fun k c t f hk => by rw [Lib.alloc_old w o k (Array.getElem?_eq_some_iff.1 hk).1]; exact hk
theorem Bld.below {B b : Nat} {l : List UInt8} {w w' : World} (h : Bld B b l w) (hb : Below w.heap.size w w') : Bld B b l w' :=
  Bld.keep h fun _ _ _ _ hk => (hb.block _ (Array.getElem?_eq_some_iff.1 hk).1).trans hk
theorem Bld.iterAt {B b : Nat} {l : List UInt8} {w : World} (h : Bld B b l w) {g : Nat} {s : ByteArray} {pos : Nat} (hg : w.heap[g]? = some (.stringIter s pos)) (pos' : Nat) : Bld B b l (w.iterAt g s pos') :=
  Bld.keep h fun k c t f hk => by
    rw [Lib.iterAt_other w g k s pos' (fun e => by subst e; rw [hg] at hk; cases hk)]
    exact hk
/-- An iterator, or marked bytes, behind a write. -/
theorem Kept.iter {b : Nat} {w w' : World} (h : Kept b w w') {g : Nat} {s : ByteArray} {pos : Nat} (hg : w.heap[g]? = some (.stringIter s pos)) (hne : g ≠ b) : w'.heap[g]? = some (.stringIter s pos) := h g _ hg hne (fun _ e => by cases e)

/-- []byte(s): a new row, marked behind its end. -/
theorem conv_bytes (w : World) (s : ByteArray) : ∃ C cs, (convert 9 23 (.string s)).run Tryd.prog w = .ok (.slice (some ⟨w.heap.size, 0, none⟩) s.size C) (w.drew.alloc (.cells cs 5 (cs.size, cs.size + 1))) ∧
    ∀ (j : Nat) (x : UInt8), s.data.toList[j]? = some x → cs[j]? = some (.int .u8 (x.toNat : Int)) := by
  refine ⟨_, _, run_bytes_of_string w 9 23 5 s Tryd.underlying9 Tryd.underlying23 Tryd.underlying5, fun j x hj => ?_⟩
  rw [Array.getElem?_toList] at hj
  obtain ⟨h1, h2⟩ := Array.getElem?_eq_some_iff.1 hj
  rw [bytesRow_at s _ j h1, h2]
/-- The inner loop of Show: the bytes l, of which j are written. -/
structure ShJ (w wr : World) (B g g2 : Nat) (s : ByteArray) (pos : Nat) (cs : Array Value) (acc0 acc l : List UInt8) (j : Nat) : Prop where
  bld : Bld B B acc wr
  it : wr.heap[g]? = some (.stringIter s pos)
  bx : wr.heap[g2]? = some (.cells cs 5 (cs.size, cs.size + 1))
  bel : Below B w wr
  eq : acc = acc0 ++ (l.take j).flatMap escL
theorem ShJ.drewN {w wr : World} {B g g2 : Nat} {s : ByteArray} {pos : Nat} {cs : Array Value} {acc0 acc l : List UInt8} {j : Nat} (h : ShJ w wr B g g2 s pos cs acc0 acc l j) (q : Nat) : ShJ w (wr.drewN q) B g g2 s pos cs acc0 acc l j := by
  have hb : Below wr.heap.size wr (wr.drewN q) := below_drewN (Below.refl _ _) q
  exact ⟨Bld.below h.bld hb, (hb.block _ (Array.getElem?_eq_some_iff.1 h.it).1).trans h.it, (hb.block _ (Array.getElem?_eq_some_iff.1 h.bx).1).trans h.bx, below_drewN h.bel q, h.eq⟩
theorem take_flat (l : List UInt8) (j : Nat) (x : UInt8) (h : l[j]? = some x) : (l.take (j + 1)).flatMap escL = (l.take j).flatMap escL ++ escL x := by
  rw [List.take_add_one, h, List.flatMap_append]
  simp

set_option maxHeartbeats 1000000 in
set_option maxRecDepth 100000 in
theorem show_any (w : World) (a : Option Addr) (n c : Nat) (L : List Int) (hA : SB w (.slice a n c) L) (hn : n ≤ 35184372088000) :
    Calls Tryd.prog 20 #[.slice a n c] w fun e w' => e = .returned (.string ⟨(showL (strI L).data.toList).toArray⟩) ∧ Below w.heap.size w w' := by
  have hcv := run_strI w a n c L hA
  have hsz : (strI L).size = n := by rw [← hA.len.1]; simp [strI, ByteArray.size]
  generalize strI L = s at hcv hsz ⊢
  clear hA
  go_enter Tryd.func20, Tryd.ntmps20
  go_wp2_with (go_at_call 48; refine (writeByte_any w.heap.size w.heap.size [] 34 _ (Lib.fresh_isBuilder 75 5 w) (by simp) (by simp)).mono ?_)
  rintro e w1 ⟨rfl, h1, b1, k1⟩
  have b1 : Below w.heap.size w w1 := ((Below.refl _ w).alloc (Nat.le_refl _) _).trans b1
  have hlt1 : w.heap.size < w1.heap.size := Bld.lt h1
  clear k1
  obtain ⟨B, hB⟩ : ∃ B, w.heap.size = B := ⟨_, rfl⟩
  rw [hB] at h1 b1 hlt1 ⊢
  have HBB := Lib.hid hB
  clear hB
  obtain ⟨g, hg⟩ : ∃ g, w1.heap.size = g := ⟨_, rfl⟩
  have HI : Hid (ShI w (w1.iter s 0) B g s 0 s.size [34]) := Lib.hid
    ⟨Bld.alloc h1 _, by rw [← hg]; exact World.iter_heap w1 s 0, b1.alloc (by omega) _, by simp [showL], by omega, by simp, by omega, by omega⟩
  clear h1 b1 hlt1
  go_wp2_with fail
  generalize w1.iter s 0 = w2 at HI ⊢
  clear hg
  go_loopw [] (fun wr => ∃ (pos fuel : Nat) (acc : List UInt8), ShI w wr B g s pos fuel acc) (fun wr => s.size - wr.iterPos g)
  case atStart => exact ⟨_, _, _, HI.out⟩
  case round =>
    clear HI
    obtain ⟨pos, fuel, acc, hI⟩ := hrel
    have HI := Lib.hid hI
    have hit := hI.it
    clear hI
    by_cases hp : pos < s.size
    · have hnx : ∀ ty, (Instr.next (.pointer (some ⟨g, 0, none⟩)) true ty).run Tryd.prog wr = _ := fun ty => Lib.run_next_any_at wr g s pos ty hit hp
      have hne : s.data.toList.drop pos ≠ [] := fun e => by have := congrArg List.length e; rw [List.length_drop, dataL] at this; simp at this; omega
      have HW := Lib.hid (wid_le _ hne)
      have hll : (s.data.toList.drop pos).length = s.size - pos := by rw [List.length_drop, dataL]
      have hex : (s.extract pos s.size).data.toList = s.data.toList.drop pos := by rw [extract_list, List.take_of_length_le (by omega)]
      have HWD : Hid (∀ w1, Calls Tryd.prog 49 #[.string (s.extract pos s.size), .int .i32 ((Utf8.decode s pos).1 : Int)] w1 fun e w' => e = .returned (.int .i64 (wid (s.data.toList.drop pos) : Int)) ∧ w' = w1) := Lib.hid (fun w1 => by
        have := width_any (s.extract pos s.size) w1
        rw [hex, Lib.decodeL_drop] at this
        exact this)
      have HST : Hid (∀ f, fuel = f + 1 → acc ++ oneL (s.data.toList.drop pos) ++ (bodyL f (s.data.toList.drop (pos + (Utf8.decode s pos).2)) ++ [34]) = showL s.data.toList) := Lib.hid (fun f hf => by
        rw [← HI.out.eq, hf]
        conv => rhs; unfold bodyL
        rw [if_neg hne, List.drop_drop, Lib.decodeL_drop]
        simp only [List.append_assoc])
      have HON : Hid (oneL (s.data.toList.drop pos) = if 0 < wid (s.data.toList.drop pos) ∧ fairR ((Utf8.decode s pos).1 : Int) = true then (s.data.toList.drop pos).take (wid (s.data.toList.drop pos)) else ((s.data.toList.drop pos).take (max (wid (s.data.toList.drop pos)) 1)).flatMap escL) := Lib.hid (by unfold oneL; rw [Lib.decodeL_drop])
      obtain ⟨f, hf⟩ : ∃ f, fuel = f + 1 := ⟨fuel - 1, by have := HI.out.fu; omega⟩
      have HST := Lib.hid (HST.out f hf)
      have HFU : Hid (s.size ≤ pos + fuel) := Lib.hid HI.out.fu
      rw [Lib.decodeL_drop] at HW
      have HBw : Hid (Bld B B acc (wr.iterAt g s (pos + (Utf8.decode s pos).2)) ∧ (wr.iterAt g s (pos + (Utf8.decode s pos).2)).heap[g]? = some (.stringIter s (pos + (Utf8.decode s pos).2)) ∧ Below B w (wr.iterAt g s (pos + (Utf8.decode s pos).2))) := Lib.hid
        ⟨HI.out.bld.iterAt hit _, Lib.iterAt_heap wr g s pos _ hit, Lib.below_iterAt HI.out.bel (by have := HI.out.gB; omega) s _⟩
      have HLN : Hid (acc.length ≤ 1 + 4 * pos ∧ B < g) := Lib.hid ⟨HI.out.len, HI.out.gB⟩
      go_upto_region 7 with fail
      have HIT := Lib.hid hit
      clear hit hnx HI
      rw [hll] at HW
      generalize (Utf8.decode s pos).1 = r at HWD HON ⊢
      generalize (Utf8.decode s pos).2 = dk at HW HST HBw ⊢
      generalize wr.iterAt g s (pos + dk) = w3 at HBw ⊢
      obtain ⟨k, hk⟩ : ∃ k, wid (s.data.toList.drop pos) = k := ⟨_, rfl⟩
      rw [hk] at HW HWD HON
      rw [hsz] at HWD
      have hps : pos ≤ s.size := by omega
      go_wp2_with (go_at_call 49; refine (HWD.out _).mono ?_)
      rintro e w4 ⟨rfl, rfl⟩
      clear HWD
      go_upto_region 8 with fail
      go_cut [29] (fun v wx => v = .bool (decide (0 < k) && fairR (r : Int)) ∧ wx = w4)
      case first =>
        by_cases hk0 : 0 < k
        · have hd : decide ((0 : Int) < (k : Int)) = true := decide_eq_true (by omega)
          go_wp2_with (go_at_call 50; refine (fair_any (r : Int) _).mono ?_)
          rintro e w5 ⟨rfl, rfl⟩
          go_wp2_with fail
          go_meet
          case rel => exact ⟨by rw [decide_eq_true hk0, Bool.true_and], rfl⟩
        · have hd : decide ((0 : Int) < (k : Int)) = false := decide_eq_false (by omega)
          go_wp2_with fail
          go_meet
          case rel => exact ⟨by rw [decide_eq_false hk0, Bool.false_and], rfl⟩
      case rest =>
        obtain ⟨rfl, rfl⟩ := hcut
        by_cases hA : 0 < k ∧ fairR (r : Int) = true
        · obtain ⟨hk0, hfr⟩ := hA
          have HON2 : Hid (oneL (s.data.toList.drop pos) = (s.data.toList.drop pos).take k) := Lib.hid (by rw [HON.out, if_pos ⟨hk0, hfr⟩])
          have hd : (decide (0 < k) && fairR (r : Int)) = true := by rw [decide_eq_true hk0, hfr]; rfl
          have hpk : pos + k ≤ s.size := by have := HW.out; omega
          have hpk2 : pos + k ≤ 9223372036854775807 := by omega
          have HXL : Hid ((s.extract pos (pos + k)).data.toList = (s.data.toList.drop pos).take k) := Lib.hid (by rw [extract_list]; congr 1; omega)
          have HXS : Hid ((s.extract pos (pos + k)).size = k) := Lib.hid (by rw [← dataL, HXL.out, List.length_take, List.length_drop, dataL]; omega)
          have HCL := Lib.hid (writeString_any B B acc (s.extract pos (pos + k)) wc HBw.out.1 (by rw [HXS.out]; have := HLN.out.1; omega) (by have := Bld.lt HBw.out.1; omega))
          rw [hd]
          clear hfr HON hd
          go_wp2_with (go_at_call 51; refine HCL.out.mono ?_)
          rintro e w6 ⟨rfl, h6, b6, k6⟩
          rw [HXL.out] at h6
          have HI6 : Hid (ShI w w6 B g s (pos + dk) f (acc ++ oneL (s.data.toList.drop pos))) := Lib.hid
            ⟨by rw [HON2.out]; exact h6, k6.iter HBw.out.2.1 (by have := HLN.out.2; omega), HBw.out.2.2.trans b6, HST.out, by have := HFU.out; have := HW.out; omega,
              by rw [HON2.out, List.length_append, List.length_take]; have := HLN.out.1; have := HW.out; omega, by have := HW.out; omega, HLN.out.2⟩
          clear h6 b6 k6 HCL
          go_wp2_with fail
          go_roundw
          case rel => exact ⟨_, _, _, HI6.out⟩
          case measure =>
            simp only [World.iterPos, HI6.out.it, HIT.out]
            have := HW.out
            omega
        · have HON2 : Hid (oneL (s.data.toList.drop pos) = ((s.data.toList.drop pos).take (max k 1)).flatMap escL) := Lib.hid (by rw [HON.out, if_neg hA])
          have hd : (decide (0 < k) && fairR (r : Int)) = false := by
            cases hdd : (decide (0 < k) && fairR (r : Int)) with
            | false => rfl
            | true =>
              rw [Bool.and_eq_true, decide_eq_true_eq] at hdd
              exact absurd hdd hA
          rw [hd]
          clear HON hd hA
          obtain ⟨m, hm⟩ : ∃ m, max k 1 = m := ⟨_, rfl⟩
          have hmi : max (k : Int) 1 = (m : Int) := by omega
          have HM : Hid (m ≤ dk ∧ 1 ≤ m) := Lib.hid (by have := HW.out; omega)
          have hpm : pos + m ≤ s.size := by have := HW.out; have := HM.out; omega
          have hpm2 : pos + m ≤ 9223372036854775807 := by omega
          have HXL : Hid ((s.extract pos (pos + m)).data.toList = (s.data.toList.drop pos).take m) := Lib.hid (by rw [extract_list]; congr 1; omega)
          have hxs : (s.extract pos (pos + m)).size = m := by rw [← dataL, HXL.out, List.length_take, List.length_drop, dataL]; omega
          have HLM : Hid (((s.data.toList.drop pos).take m).length = m) := Lib.hid (by rw [← HXL.out, dataL, hxs])
          rw [hm] at HON2
          obtain ⟨C, cs, hcb, hcc⟩ := conv_bytes wc (s.extract pos (pos + m))
          rw [hxs] at hcb
          rw [HXL.out] at hcc
          have HCC := Lib.hid hcc
          obtain ⟨g2, hg2⟩ : ∃ g2, wc.heap.size = g2 := ⟨_, rfl⟩
          have HG2 := Lib.hid hg2
          have HJ0 : Hid (ShJ w (wc.alloc (.cells cs 5 (cs.size, cs.size + 1))).drew B g g2 s (pos + dk) cs acc acc ((s.data.toList.drop pos).take m) 0) := Lib.hid <| show ShJ w (wc.drew.alloc (.cells cs 5 (cs.size, cs.size + 1))) B g g2 s (pos + dk) cs acc acc ((s.data.toList.drop pos).take m) 0 from
            ⟨Bld.alloc (Bld.below HBw.out.1 (Below.refl _ wc).drew) _, (Lib.alloc_old wc.drew _ _ (Array.getElem?_eq_some_iff.1 HBw.out.2.1).1).trans HBw.out.2.1, by rw [← hg2]; exact heap_alloc_new wc.drew _, HBw.out.2.2.drew.alloc (by have := Bld.lt HBw.out.1; exact Nat.le_of_lt this) _, by simp⟩
          have HNE : Hid (g2 ≠ B ∧ g ≠ B) := Lib.hid ⟨by have := Bld.lt HBw.out.1; omega, by have := HLN.out.2; omega⟩
          clear hcc hg2 hm
          go_wp2_with fail
          rw [HG2.out]
          generalize (wc.alloc (.cells cs 5 (cs.size, cs.size + 1))).drew = w5 at HJ0 ⊢
          clear hcb HG2
          obtain ⟨lm, hlm⟩ : ∃ lm, (s.data.toList.drop pos).take m = lm := ⟨_, rfl⟩
          rw [hlm] at HJ0 HON2 HCC HLM
          clear hlm HXL hxs hmi
          go_loopw [46] (fun v wx => ∃ (j : Nat) (ac : List UInt8), j ≤ m ∧ v = .int .i64 (j : Int) ∧ ShJ w wx B g g2 s (pos + dk) cs acc ac lm j) (fun v _ => m - (intOf v).toNat)
          case atStart => exact ⟨0, _, by omega, rfl, HJ0.out⟩
          case round =>
            clear HJ0 HBw
            obtain ⟨j, ac, hjm, rfl, hJ⟩ := hrel
            have HJ := Lib.hid hJ
            clear hJ
            have HAL : Hid (ac.length ≤ acc.length + 4 * j) := Lib.hid (by
              rw [HJ.out.eq, List.length_append]
              have := flat_len (lm.take j)
              rw [List.length_take] at this
              omega)
            by_cases hj : j < m
            · have hd : decide ((j : Int) < (m : Int)) = true := decide_eq_true (by omega)
              obtain ⟨x, hx⟩ : ∃ x, lm[j]? = some x := ⟨lm[j]'(by rw [HLM.out]; exact hj), List.getElem?_eq_getElem _⟩
              have hc : wr.cell? ⟨g2, j, none⟩ = some (.int .u8 (x.toNat : Int)) := by rw [Lib.cell_of_heap HJ.out.bx]; exact HCC.out j x hx
              have HX := Lib.hid hx
              clear hx
              go_wp2_with (go_at_call 52; refine (escape_any x _).mono ?_)
              rintro e w6 ⟨rfl, q, rfl⟩
              have HJ6 := Lib.hid (HJ.out.drewN q)
              have hel : (⟨(escL x).toArray⟩ : ByteArray).size ≤ 4 := by have := escL_len x; simpa [ByteArray.size] using this
              have HCL := Lib.hid (writeString_any B B ac ⟨(escL x).toArray⟩ (wr.drewN q) HJ6.out.bld (by have := HAL.out; have := HLN.out.1; omega) (Nat.le_of_lt (Bld.lt HJ6.out.bld)))
              clear hc hel
              generalize wr.drewN q = w6 at HJ6 HCL ⊢
              go_wp2_with (go_at_call 51; refine HCL.out.mono ?_)
              rintro e w7 ⟨rfl, h7, b7, k7⟩
              have HJ7 : Hid (ShJ w w7 B g g2 s (pos + dk) cs acc (ac ++ escL x) lm (j + 1)) := Lib.hid
                ⟨h7, k7.iter HJ6.out.it HNE.out.2, k7 g2 _ HJ6.out.bx HNE.out.1 (fun c e => by simp at e), HJ6.out.bel.trans b7, by rw [HJ6.out.eq, take_flat lm j x HX.out, List.append_assoc]⟩
              clear h7 b7 k7 HCL
              go_wp2_with fail
              go_roundw
              case rel => exact ⟨j + 1, _, by omega, by go_num, HJ7.out⟩
              case measure => simp [intOf]; omega
            · obtain rfl : j = m := by omega
              have hd : decide ((j : Int) < (j : Int)) = false := decide_eq_false (by omega)
              have HEQ : Hid (ac = acc ++ oneL (s.data.toList.drop pos)) := Lib.hid (by rw [HJ.out.eq, HON2.out, List.take_of_length_le (by rw [HLM.out]; omega)])
              have HI6 : Hid (ShI w wr B g s (pos + dk) f ac) := Lib.hid
                ⟨HJ.out.bld, HJ.out.it, HJ.out.bel, by rw [HEQ.out]; exact HST.out, by have := HFU.out; have := HW.out; omega,
                  by have := HAL.out; have := HLN.out.1; have := HM.out; omega, by have := HW.out; omega, HLN.out.2⟩
              go_wp2_with fail
              go_roundw
              case rel => exact ⟨_, _, _, HI6.out⟩
              case measure =>
                simp only [World.iterPos, HI6.out.it, HIT.out]
                have := HW.out
                omega
    · have hnx : ∀ ty, (Instr.next (.pointer (some ⟨g, 0, none⟩)) true ty).run Tryd.prog wr = _ := fun ty => Lib.run_next_end_at wr g s pos ty hit hp
      have hpe : pos = s.size := by have := HI.out.le; omega
      have HEQ : Hid (acc ++ [34] = showL s.data.toList) := Lib.hid (by
        rw [← HI.out.eq, List.drop_eq_nil_of_le (by rw [dataL]; omega)]
        cases fuel <;> rfl)
      have HLB := Lib.hid HI.out.size
      have hal : acc.length ≤ 1 + 4 * n := by have := HI.out.len; omega
      have HB := Lib.hid HI.out.bld
      clear hit
      go_wp2_with (go_at_call 48; refine (writeByte_any B B acc 34 _ HB.out (by omega) HLB.out).mono ?_)
      rintro e w3 ⟨rfl, h3, b3, k3⟩
      rw [HEQ.out] at h3
      have HBd := Lib.hid h3
      have HBl := Lib.hid (HI.out.bel.trans b3)
      have HSZ := Lib.hid b3.size
      clear h3 b3 k3 hnx HB
      go_wp2_with (go_at_call 53; refine (Tryd.Builder_String_any B B (showL s.data.toList) _ HBd.out (Nat.le_trans HLB.out HSZ.out)).mono ?_)
      rintro e w4 ⟨rfl, b4⟩
      have HBl4 := Lib.hid (HBl.out.trans b4)
      clear b4
      go_wp2_with fail
      go_ret
      exact ⟨rfl, by rw [HBB.out]; exact HBl4.out⟩
end Go.Proofs.YtboikhalfffioaaDoor
