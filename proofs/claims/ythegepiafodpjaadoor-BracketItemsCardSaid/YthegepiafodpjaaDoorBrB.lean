/-
  bracket: bracket, Parse.
-/
import Derived.Test.YthegepiafodpjaaDoorBrI
namespace Go.Proofs.YthegepiafodpjaaDoor
open Go.RowKit

theorem item_okC (l : List Mk) (op i : Nat) (first : Bool) : OkC (itemM l op i first) := by
  have h1 := thing_okC l op i
  unfold itemM
  split
  · trivial
  · split
    · trivial
    · rename_i h
      rw [h] at h1
      split
      · exact h1
      · split
        · trivial
        · split
          · trivial
          · split
            · trivial
            · split
              · trivial
              · exact isC_rangeL4 _ _
theorem item_bad (l : List Mk) (op i : Nat) (first : Bool) : BadE (itemM l op i first) := by
  have h1 := thing_bad l op i
  unfold itemM
  split
  · exact .inl rfl
  · split
    · rename_i h
      rw [h] at h1
      exact h1
    · split
      · trivial
      · split
        · exact .inr (.inr rfl)
        · split
          · exact .inl rfl
          · have h2 : ∀ x, BadE (thingM l op x) := thing_bad l op
            split
            · rename_i h3
              exact h3 ▸ h2 _
            · split
              · exact .inl rfl
              · trivial
/-- The class, the place behind, or a fault. -/
def brM (l : List Mk) (op : Nat) : TR :=
  match itemsM l op (if sgn l (op + 1) 94 then op + 2 else op + 1) (l.length + 1) (if sgn l (op + 1) 94 then op + 2 else op + 1) noneL with
  | .bad e p => .bad e p
  | .ok set _ _ i => .ok (if sgn l (op + 1) 94 then notL set else set) false 0 (i + 1)
/-- The loop of bracket. -/
structure BL (w wr : World) (g g2 g4 g7 : Nat) (a : Option Addr) (n c op : Nat) (l : List Mk) (fs f k : Nat) (set : List Nat) : Prop where
  ib : IB w wr g g2 g4 a n c op l
  h7 : wr.heap[g7]? = some (.cells (row64 set) TCl (0, 0))
  l7 : w.heap.size ≤ g7
  n7 : (g7 ≠ g2 ∧ g7 ≠ g4) ∧ g7 ≠ g
  isc : IsC set
  eq : itemsM l op fs (l.length + 1) fs noneL = itemsM l op fs f k set
  fk : n + 1 < f + k
theorem BL.below {w wr w' : World} {g g2 g4 g7 : Nat} {a : Option Addr} {n c op : Nat} {l : List Mk} {fs f k : Nat} {set : List Nat} (h : BL w wr g g2 g4 g7 a n c op l fs f k set) (hb : Below wr.heap.size wr w') : BL w w' g g2 g4 g7 a n c op l fs f k set :=
  { h with ib := h.ib.below hb, h7 := heap_b hb h.h7 }
/-- The set grows. -/
theorem BL.store {w wr : World} {g g2 g4 g7 : Nat} {a : Option Addr} {n c op : Nat} {l : List Mk} {fs f k f' k' : Nat} {set set' : List Nat} (h : BL w wr g g2 g4 g7 a n c op l fs f k set) (hi : IsC set') (he : itemsM l op fs (l.length + 1) fs noneL = itemsM l op fs f' k' set') (hf : n + 1 < f' + k') : BL w (wr.setRow g7 (row64 set')) g g2 g4 g7 a n c op l fs f' k' set' :=
  ⟨h.ib.row h.n7.1 h.n7.2 h.l7 _, setRow_heap _ _ _ _ _ _ h.h7, h.l7, h.n7, hi, he, hf⟩
theorem BL.new {w w1 : World} {g g2 g4 : Nat} {a : Option Addr} {n c op : Nat} {l : List Mk} (h : IB w w1 g g2 g4 a n c op l) (fs : Nat) (hl : l.length = n) (hf : 1 ≤ fs) : ∃ w2 g7, w1.alloc (.cells zCl TCl) = w2 ∧ w1.heap.size = g7 ∧ BL w w2 g g2 g4 g7 a n c op l fs (l.length + 1) fs noneL := by
  refine ⟨_, _, rfl, rfl, h.below (box1 _ _), heap_alloc_new w1 _, h.rd.bel.size, ⟨⟨?_, ?_⟩, ?_⟩, isC_none, rfl, by omega⟩
  · have := (Array.getElem?_eq_some_iff.1 h.h6).1; omega
  · have := (Array.getElem?_eq_some_iff.1 h.h8).1; omega
  · have := World.block_lt_of_cell? w1 _ h.rd.c0; simp only at this; omega
theorem IB.boxesC {w0 w : World} {g g6 g8 : Nat} {a : Option Addr} {n c op : Nat} {l : List Mk} (h : IB w0 w g g6 g8 a n c op l) (cs cf : Array Value) : ∃ w1 g10 g11, (w.alloc (.cells cs TCl)).alloc (.cells cf TFa) = w1 ∧ w.heap.size = g10 ∧ w.heap.size + 1 = g11 ∧ w1.heap[g10]? = some (.cells cs TCl (0, 0)) ∧ w1.heap[g11]? = some (.cells cf TFa (0, 0)) ∧ Below w.heap.size w w1 ∧ (g11 ≠ g6 ∧ g11 ≠ g8) := by
  refine ⟨_, _, _, rfl, rfl, rfl, ?_⟩
  have b1 := box1 w (.cells cs TCl)
  have n1 := heap_alloc_new w (.cells cs TCl)
  have e1 : (w.alloc (.cells cs TCl)).heap.size = w.heap.size + 1 := by simp
  have k6 := (Array.getElem?_eq_some_iff.1 h.h6).1
  have k8 := (Array.getElem?_eq_some_iff.1 h.h8).1
  generalize w.alloc (.cells cs TCl) = w1 at b1 n1 e1 ⊢
  have b2 := box1 w1 (.cells cf TFa)
  have n2 := heap_alloc_new w1 (.cells cf TFa)
  rw [e1] at n2
  exact ⟨heap_b b2 n1, n2, b1.trans (b2.mono (by omega)), ⟨by omega, by omega⟩⟩
def itV : TR → Value
  | .ok set _ _ next => .tuple #[.agg (row64 set), .int .i64 (next : Int), .agg (faC 0 0)]
  | .bad er p => .tuple #[.agg (row64 noneL), .int .i64 0, .agg (faC er p)]
theorem it_post {w w' : World} {r : TR} {e : Ending} (h : ItPost w r e w') : e = .returned (itV r) ∧ Below w.heap.size w w' := by
  cases r with
  | ok set fin v next => exact h
  | bad er p => exact h
theorem itV_ok (u0 u1 u2 u3 : Nat) (fin : Bool) (v : Int) (next : Nat) : itV (.ok [u0, u1, u2, u3] fin v next) = .tuple #[.agg #[.int .u64 (u0 : Int), .int .u64 (u1 : Int), .int .u64 (u2 : Int), .int .u64 (u3 : Int)], .int .i64 (next : Int), .agg zFa] := rfl
theorem itV_bad (e p : Nat) : itV (.bad e p) = .tuple #[.agg zCl, .int .i64 0, .agg #[.int .i64 (e : Int), .int .i64 (p : Int)]] := rfl
def CoP (w wx : World) (g g2 g4 g7 : Nat) (a : Option Addr) (n c op : Nat) (l : List Mk) (fs f k : Nat) (set : List Nat) (b : Bool) (v : Value) : Prop := v = .bool b ∧ BL w wx g g2 g4 g7 a n c op l fs f k set
theorem row64_4 (u0 u1 u2 u3 : Nat) : row64 [u0, u1, u2, u3] = #[.int .u64 (u0 : Int), .int .u64 (u1 : Int), .int .u64 (u2 : Int), .int .u64 (u3 : Int)] := rfl

set_option maxHeartbeats 4000000 in
set_option maxRecDepth 100000 in
theorem bracket_any (w : World) (hw : BrW w) (a : Option Addr) (n c op : Nat) (l : List Mk) (h : SM w (.slice a n c) l) (hop : op < n) :
    Calls Tryd.prog 30 #[rdV a n c op] w (ItPost w (brM l op)) := by
  obtain ⟨hl, hn⟩ := h.len
  obtain ⟨w1, g, g2, g4, e1, e2, e3, e4, hN⟩ := IB.new (op := op) h hw
  have HN := Lib.hid hN
  have HL := Lib.hid hl
  have E := Lib.hid (And.intro e1 (And.intro e2 (And.intro e3 e4)))
  clear h hw hl hN e1 e2 e3 e4
  go_enter Tryd.func30, Tryd.ntmps30
  go_upto_region 1 with fail
  rw [E.out.2.2.2, E.out.2.2.1, E.out.2.1, E.out.1]
  clear E
  have c0 := HN.out.rd.c0
  have c1 := HN.out.rd.c1
  go_wp2_with fail
  refine (sign_any w1 a n c op (op + 1) 94 l HN.out.rd.sm).mono ?_
  rintro e w2 ⟨rfl, hb⟩
  have HN2 := Lib.hid (HN.out.below hb)
  clear c0 c1 hb HN
  have HBR : Hid (brM l op = match itemsM l op (if sgn l (op + 1) 94 then op + 2 else op + 1) (l.length + 1) (if sgn l (op + 1) 94 then op + 2 else op + 1) noneL with
    | .bad e p => .bad e p
    | .ok set _ _ i => .ok (if sgn l (op + 1) 94 then notL set else set) false 0 (i + 1)) := Lib.hid rfl
  obtain ⟨nt, hnt⟩ : ∃ nt, sgn l (op + 1) 94 = nt := ⟨_, rfl⟩
  rw [hnt] at HBR ⊢
  clear hnt
  obtain ⟨fs, hfs⟩ : ∃ fs, (if nt = true then op + 2 else op + 1) = fs := ⟨_, rfl⟩
  rw [hfs] at HBR
  have hfsl : fs ≤ op + 2 := by rw [← hfs]; split <;> omega
  have hfsl2 : op + 1 ≤ fs := by rw [← hfs]; split <;> omega
  have HFS := Lib.hid hfs
  clear hfs
  go_upto_if 18 with fail
  go_cut [5] (fun v wx => v = .int .i64 (fs : Int) ∧ w2 = wx)
  case first =>
    cases nt with
    | true =>
      go_wp2_with fail
      go_meet
      case rel => exact ⟨by rw [← HFS.out]; go_num, rfl⟩
    | false =>
      go_wp2_with fail
      go_meet
      case rel => exact ⟨by rw [← HFS.out]; go_num, rfl⟩
  case rest =>
    obtain ⟨rfl, rfl⟩ := hcut
    obtain ⟨w3, g7, f1, f2, hB⟩ := BL.new HN2.out fs HL.out (by omega)
    have HB := Lib.hid hB
    have F := Lib.hid (And.intro f1 f2)
    clear f1 f2 hB
    go_upto_region 6 with fail
    rw [F.out.2, F.out.1]
    clear F HN2
    go_wp2_with fail
    go_loopw [5] (fun v wr => ∃ (k f : Nat) (set : List Nat), k ≤ n + 1 ∧ fs ≤ k ∧ v = .int .i64 k ∧ BL w wr g g2 g4 g7 a n c op l fs f k set) (fun v _ => n + 1 - (intOf v).toNat)
    case atStart => exact ⟨fs, l.length + 1, noneL, by omega, Nat.le_refl _, rfl, HB.out⟩
    case round =>
      clear HB
      obtain ⟨k, f, set, hk, hfk, rfl, hR⟩ := hrel
      have HR := Lib.hid hR
      clear hR
      obtain ⟨i, hi⟩ : ∃ i, k = i := ⟨_, rfl⟩
      clear hi i
      go_upto_region 7 with fail
      go_cut [30] (fun v wx => CoP w wx g g2 g4 g7 a n c op l fs f k set (decide (k = fs) || !sgn l k 93) v)
      case first =>
        by_cases hkf : k = fs
        · have hkd : ((k : Int) == (fs : Int)) = true := by simp [hkf]
          have HK := Lib.hid hkf
          clear hkf
          go_wp2_with fail
          go_meet
          case rel => exact ⟨by rw [decide_eq_true HK.out]; rfl, HR.out⟩
        · have hkd : ((k : Int) == (fs : Int)) = false := by simp; omega
          have HK := Lib.hid hkf
          clear hkf
          have c0 := HR.out.ib.rd.c0
          have c1 := HR.out.ib.rd.c1
          go_wp2_with fail
          refine (sign_any wr a n c op k 93 l HR.out.ib.rd.sm).mono ?_
          rintro e w4 ⟨rfl, hb⟩
          have HR2 := Lib.hid (HR.out.below hb)
          clear c0 c1 hb HR
          go_wp2_with fail
          go_meet
          case rel => exact ⟨by rw [decide_eq_false HK.out]; rfl, HR2.out⟩
      case rest =>
        obtain ⟨hv, hR2⟩ := hcut
        subst hv
        generalize wc = w4 at hR2 ⊢
        have HR4 := Lib.hid hR2
        clear hR2 HR
        cases hcd : (decide (k = fs) || !sgn l k 93) with
        | true =>
          cases f with
          | zero => exfalso; have := HR4.out.fk; omega
          | succ f =>
            have HST : Hid (itemsM l op fs (l.length + 1) fs noneL = match itemM l op k (decide (k = fs)) with
              | .bad e a => .bad e a
              | .ok s _ _ next => itemsM l op fs f next (orL set s)) := Lib.hid (by
              rw [HR4.out.eq]
              conv => lhs; unfold itemsM
              rw [if_neg (by revert hcd; cases decide (k = fs) <;> cases sgn l k 93 <;> simp)]
              rfl)
            have hok := item_okC l op k (decide (k = fs))
            have hbd := item_bad l op k (decide (k = fs))
            have hnx := item_next l op k (decide (k = fs))
            have hkeq : ((k : Int) == (fs : Int)) = decide (k = fs) := by
              by_cases e : k = fs
              · simp [e]
              · rw [decide_eq_false e]; simp; omega
            clear hcd
            have c0 := HR4.out.ib.rd.c0
            have c1 := HR4.out.ib.rd.c1
            obtain ⟨fl, hfl⟩ : ∃ fl, decide (k = fs) = fl := ⟨_, rfl⟩
            rw [hfl] at HST hok hbd hnx hkeq
            clear hfl
            go_wp2_with fail
            refine (item_any w4 HR4.out.ib.rd.br a n c op k fl l HR4.out.ib.rd.sm (by omega)).mono ?_
            intro e w5 hP
            obtain ⟨rfl, hb⟩ := it_post hP
            have HR5 := Lib.hid (HR4.out.below hb)
            clear c0 c1 hb hP HR4 hkeq
            cases hit : itemM l op k fl with
            | bad e p =>
              rw [hit] at HST hbd
              clear hok hnx hit
              rw [itV_bad]
              obtain ⟨w6, g9, g11, f1, f2, f3, h9, h11, hb7, n11⟩ := HR5.out.ib.boxesC zCl #[.int .i64 (e : Int), .int .i64 (p : Int)]
              have HN6 := Lib.hid (HR5.out.ib.below hb7)
              have H11 := Lib.hid h11
              have NE11 := Lib.hid n11
              have F := Lib.hid (And.intro f1 (And.intro f2 f3))
              clear f1 f2 f3 h9 h11 hb7 n11
              go_upto_region 9 with fail
              rw [F.out.2.2, F.out.2.1, F.out.1]
              clear F HR5
              have hen : ((e : Int) != 0) = true := by rcases hbd with h | h | h <;> rw [h] <;> rfl
              have HEQ : Hid (brM l op = .bad e p) := Lib.hid (by rw [HBR.out, HST.out])
              clear hbd HST HBR
              have d0 : w6.cell? ⟨g11, 0, none⟩ = some (.int .i64 (e : Int)) := by rw [cell_of_row _ _ _ _ _ (0, 0) H11.out]; rfl
              have d1 : w6.cell? ⟨g11, 1, none⟩ = some (.int .i64 (p : Int)) := by rw [cell_of_row _ _ _ _ _ (0, 0) H11.out]; rfl
              have HD := Lib.hid ((HN6.out.below (Below.refl _ w6).drew).done zCl (faC e p))
              go_upto_region 10 with fail
              refine wp_region_held_drew (S := fun w' => w'.cell? ⟨g11, 0, none⟩ = some (.int .i64 (e : Int)) ∧ w'.cell? ⟨g11, 1, none⟩ = some (.int .i64 (p : Int))) (by kernel_rfl) (And.intro d0 d1) (fun hHeld => ?_)
              refine wpAnyH_take (i := 0) (v := .agg zCl) rfl (by kernel_rfl) (by kernel_rfl) (by kernel_rfl) (fun _ _ _ h => h) (Or.inl ⟨by rfl, by intro w hSw; (try dsimp only at hSw); go_simp⟩) (by assumption) ?_
              simp only [Act.put, List.getElem_toArray, List.getElem_cons_zero, List.setIfInBounds_toArray, List.set_cons_zero, List.set_cons_succ]
              refine wpAnyH_take (i := 1) (v := .agg #[.int .i64 (e : Int), .int .i64 (p : Int)]) rfl (by kernel_rfl) (by kernel_rfl) (by kernel_rfl) (fun _ _ _ h => h) (Or.inl ⟨by rfl, by intro w hSw; (try dsimp only at hSw); go_simp⟩) (by assumption) ?_
              simp only [Act.put, List.getElem_toArray, List.getElem_cons_zero, List.getElem_cons_succ, List.setIfInBounds_toArray, List.set_cons_zero, List.set_cons_succ]
              refine wpAnyH_ready (rs := [2]) (by kernel_rfl) (by simp) ?_
              refine AllReadyH.cons rfl (fun K hK => ?_) AllReadyH.nil
              refine wp_store_row TCl _ _ rfl g2 zCl rfl rfl TCl zCl HN6.out.h6 infoCl rfl (by kernel_rfl) ?_
              refine hK.out _ _ ⟨setRow_cell hHeld.1 NE11.out.1, setRow_cell hHeld.2 NE11.out.1⟩ (fun hHeld => ?_)
              clear hK K
              refine wpAnyH_take (i := 3) (v := .int .i64 0) rfl (by kernel_rfl) (by kernel_rfl) (by kernel_rfl) (fun _ _ _ h => h) (Or.inl ⟨by rfl, by intro w hSw; (try dsimp only at hSw); go_simp⟩) (by assumption) ?_
              simp only [Act.put, List.getElem_toArray, List.getElem_cons_zero, List.getElem_cons_succ, List.setIfInBounds_toArray, List.set_cons_zero, List.set_cons_succ]
              refine wpAnyH_ready (rs := [4]) (by kernel_rfl) (by simp) ?_
              refine AllReadyH.cons rfl (fun K hK => ?_) AllReadyH.nil
              refine wp_store_row TFa _ _ rfl g4 (faC e p) rfl rfl TFa zFa HD.out.2.2.2 infoFa rfl (by kernel_rfl) ?_
              refine hK.out _ _ ⟨setRow_cell hHeld.1 NE11.out.2, setRow_cell hHeld.2 NE11.out.2⟩ (fun hHeld => ?_)
              clear hK K
              refine wpAnyH_done (by kernel_rfl) ?_ _
              go_wp2_with fail
              exact ret_item (p := 2) (q := 4) (r := 3) rfl rfl HD.out.2.1 Tryd.underlying28 rfl infoCl rfl HD.out.2.2.1 Tryd.underlying83 rfl infoFa rfl (bad_post HEQ.out HD.out.1)
            | ok s fin v next =>
              obtain ⟨x0, x1, x2, x3, hx⟩ := isC_words s (by rw [hit] at hok; exact hok)
              obtain ⟨m0, m1, m2, m3, hm⟩ := isC_words set HR5.out.isc
              subst hx hm
              rw [hit] at HST hnx hok
              have hnn := hnx.2
              have hnk := hnx.1
              rw [HL.out] at hnn
              clear hbd hnx hit
              rw [itV_ok]
              obtain ⟨w6, g9, g11, f1, f2, f3, h9, h11, hb7, n11⟩ := HR5.out.ib.boxesC #[.int .u64 (x0 : Int), .int .u64 (x1 : Int), .int .u64 (x2 : Int), .int .u64 (x3 : Int)] zFa
              have HR6 := Lib.hid (HR5.out.below hb7)
              have H9 := Lib.hid h9
              have H11 := Lib.hid h11
              have HOK := Lib.hid hok
              have F := Lib.hid (And.intro f1 (And.intro f2 f3))
              clear f1 f2 f3 h9 h11 hb7 n11 hok
              go_upto_region 9 with fail
              rw [F.out.2.2, F.out.2.1, F.out.1]
              clear F HR5
              have k0 : w6.cell? ⟨g11, 0, none⟩ = some (.int .i64 0) := by rw [cell_of_row _ _ _ _ _ (0, 0) H11.out]; rfl
              have y0 : w6.cell? ⟨g7, 0, none⟩ = some (.int .u64 (m0 : Int)) := by rw [cell_of_row _ _ _ _ _ (0, 0) HR6.out.h7]; rfl
              have y1 : w6.cell? ⟨g7, 1, none⟩ = some (.int .u64 (m1 : Int)) := by rw [cell_of_row _ _ _ _ _ (0, 0) HR6.out.h7]; rfl
              have y2 : w6.cell? ⟨g7, 2, none⟩ = some (.int .u64 (m2 : Int)) := by rw [cell_of_row _ _ _ _ _ (0, 0) HR6.out.h7]; rfl
              have y3 : w6.cell? ⟨g7, 3, none⟩ = some (.int .u64 (m3 : Int)) := by rw [cell_of_row _ _ _ _ _ (0, 0) HR6.out.h7]; rfl
              have z0 : w6.cell? ⟨g9, 0, none⟩ = some (.int .u64 (x0 : Int)) := by rw [cell_of_row _ _ _ _ _ (0, 0) H9.out]; rfl
              have z1 : w6.cell? ⟨g9, 1, none⟩ = some (.int .u64 (x1 : Int)) := by rw [cell_of_row _ _ _ _ _ (0, 0) H9.out]; rfl
              have z2 : w6.cell? ⟨g9, 2, none⟩ = some (.int .u64 (x2 : Int)) := by rw [cell_of_row _ _ _ _ _ (0, 0) H9.out]; rfl
              have z3 : w6.cell? ⟨g9, 3, none⟩ = some (.int .u64 (x3 : Int)) := by rw [cell_of_row _ _ _ _ _ (0, 0) H9.out]; rfl
              have hOR := or_any w6 [m0, m1, m2, m3] [x0, x1, x2, x3] HR6.out.isc HOK.out
              rw [row64_4, row64_4] at hOR
              have HOR := Lib.hid hOR
              clear hOR
              go_wp2_with fail
              refine HOR.out.mono ?_
              rintro e w7 ⟨rfl, hb⟩
              have HS := Lib.hid (HR6.out.below hb)
              have HIC := Lib.hid (isC_or _ _ HR6.out.isc HOK.out)
              have HBS := Lib.hid (HS.out.store HIC.out HST.out (by have := HR6.out.fk; omega))
              clear k0 y0 y1 y2 y3 z0 z1 z2 z3 hb HR6 HOR H9 H11
              go_wp2_with (refine wpList_store_row rfl TCl (.tmp 7) (.tmp 48) rfl rfl g7 TCl (row64 [m0, m1, m2, m3]) (row64 (orL [m0, m1, m2, m3] [x0, x1, x2, x3])) rfl rfl HS.out.h7 (by rw [row64_size, row64_size, HIC.out.1]; rfl) (by rw [row64_size, HIC.out.1]; exact infoCl) (row64_one _) ?_)
              go_roundw
              case rel => exact ⟨next, f, _, by omega, by omega, rfl, HBS.out⟩
              case measure => simp [intOf]; omega
        | false =>
          have hc1 : decide (k = fs) = false ∧ sgn l k 93 = true := by revert hcd; cases decide (k = fs) <;> cases sgn l k 93 <;> simp
          have hkn : k < n := by have := sgn_lt hc1.2; rw [HL.out] at this; exact this
          have HST : Hid (itemsM l op fs (l.length + 1) fs noneL = .ok set false 0 k) := Lib.hid (by
            rw [HR4.out.eq]
            cases f with
            | zero => exfalso; have := HR4.out.fk; omega
            | succ f =>
              conv => lhs; unfold itemsM
              rw [hc1.1, hc1.2]
              rfl)
          obtain ⟨m0, m1, m2, m3, hm⟩ := isC_words set HR4.out.isc
          subst hm
          clear hcd hc1
          cases nt with
          | true =>
            have hcs := isC_not _ HR4.out.isc
            have hNT := not_any w4 [m0, m1, m2, m3] HR4.out.isc
            rw [row64_4] at hNT
            have HNT := Lib.hid hNT
            clear hNT
            obtain ⟨q0, q1, q2, q3, hq⟩ := isC_words (notL [m0, m1, m2, m3]) hcs
            have HEQ : Hid (brM l op = .ok [q0, q1, q2, q3] false 0 (k + 1)) := Lib.hid (by rw [HBR.out, HST.out, ← hq]; rfl)
            have HQ := Lib.hid hq
            have HCS := Lib.hid hcs
            have y0 : w4.cell? ⟨g7, 0, none⟩ = some (.int .u64 (m0 : Int)) := by rw [cell_of_row _ _ _ _ _ (0, 0) HR4.out.h7]; rfl
            have y1 : w4.cell? ⟨g7, 1, none⟩ = some (.int .u64 (m1 : Int)) := by rw [cell_of_row _ _ _ _ _ (0, 0) HR4.out.h7]; rfl
            have y2 : w4.cell? ⟨g7, 2, none⟩ = some (.int .u64 (m2 : Int)) := by rw [cell_of_row _ _ _ _ _ (0, 0) HR4.out.h7]; rfl
            have y3 : w4.cell? ⟨g7, 3, none⟩ = some (.int .u64 (m3 : Int)) := by rw [cell_of_row _ _ _ _ _ (0, 0) HR4.out.h7]; rfl
            clear hq hcs HST HBR
            go_wp2_with fail
            refine HNT.out.mono ?_
            rintro e w5 ⟨rfl, hb⟩
            have HS := Lib.hid (HR4.out.below hb)
            have HI5 := Lib.hid (HS.out.ib.row HS.out.n7.1 HS.out.n7.2 HS.out.l7 #[.int .u64 (q0 : Int), .int .u64 (q1 : Int), .int .u64 (q2 : Int), .int .u64 (q3 : Int)])
            have H75 := Lib.hid (setRow_heap w5 g7 _ #[.int .u64 (q0 : Int), .int .u64 (q1 : Int), .int .u64 (q2 : Int), .int .u64 (q3 : Int)] TCl _ HS.out.h7)
            rw [HQ.out, row64_4]
            clear y0 y1 y2 y3 hb HR4 HNT HQ
            go_upto_region 15 with (refine wpList_store_row rfl TCl (.tmp 7) (.tmp 52) rfl rfl g7 TCl (row64 [m0, m1, m2, m3]) #[.int .u64 (q0 : Int), .int .u64 (q1 : Int), .int .u64 (q2 : Int), .int .u64 (q3 : Int)] rfl rfl HS.out.h7 rfl infoCl (by simp [Value.oneCell']) ?_)
            generalize w5.setRow g7 #[.int .u64 (q0 : Int), .int .u64 (q1 : Int), .int .u64 (q2 : Int), .int .u64 (q3 : Int)] = w6 at HI5 H75 ⊢
            have v0 : w6.cell? ⟨g7, 0, none⟩ = some (.int .u64 (q0 : Int)) := by rw [cell_of_row _ _ _ _ _ (0, 0) H75.out]; rfl
            have v1 : w6.cell? ⟨g7, 1, none⟩ = some (.int .u64 (q1 : Int)) := by rw [cell_of_row _ _ _ _ _ (0, 0) H75.out]; rfl
            have v2 : w6.cell? ⟨g7, 2, none⟩ = some (.int .u64 (q2 : Int)) := by rw [cell_of_row _ _ _ _ _ (0, 0) H75.out]; rfl
            have v3 : w6.cell? ⟨g7, 3, none⟩ = some (.int .u64 (q3 : Int)) := by rw [cell_of_row _ _ _ _ _ (0, 0) H75.out]; rfl
            have HD := Lib.hid (HI5.out.done #[.int .u64 (q0 : Int), .int .u64 (q1 : Int), .int .u64 (q2 : Int), .int .u64 (q3 : Int)] (faC 0 0))
            go_wp2_with (first | (refine wpList_store_row rfl TCl (.tmp 2) (.tmp 53) rfl rfl g2 TCl zCl #[.int .u64 (q0 : Int), .int .u64 (q1 : Int), .int .u64 (q2 : Int), .int .u64 (q3 : Int)] rfl rfl HI5.out.h6 rfl infoCl (by simp [Value.oneCell']) ?_) | (refine wpList_store_row rfl TFa (.tmp 4) (.tmp 56) rfl rfl g4 TFa zFa (faC 0 0) rfl rfl HD.out.2.2.2 rfl infoFa (faC_one _ _) ?_))
            exact ret_item (p := 2) (q := 4) (r := 3) rfl rfl HD.out.2.1 Tryd.underlying28 rfl infoCl rfl HD.out.2.2.1 Tryd.underlying83 rfl infoFa rfl (ok_post HEQ.out HD.out.1)
          | false =>
            have HEQ : Hid (brM l op = .ok [m0, m1, m2, m3] false 0 (k + 1)) := Lib.hid (by rw [HBR.out, HST.out]; rfl)
            clear HST HBR
            go_upto_region 15 with fail
            have v0 : w4.cell? ⟨g7, 0, none⟩ = some (.int .u64 (m0 : Int)) := by rw [cell_of_row _ _ _ _ _ (0, 0) HR4.out.h7]; rfl
            have v1 : w4.cell? ⟨g7, 1, none⟩ = some (.int .u64 (m1 : Int)) := by rw [cell_of_row _ _ _ _ _ (0, 0) HR4.out.h7]; rfl
            have v2 : w4.cell? ⟨g7, 2, none⟩ = some (.int .u64 (m2 : Int)) := by rw [cell_of_row _ _ _ _ _ (0, 0) HR4.out.h7]; rfl
            have v3 : w4.cell? ⟨g7, 3, none⟩ = some (.int .u64 (m3 : Int)) := by rw [cell_of_row _ _ _ _ _ (0, 0) HR4.out.h7]; rfl
            have HD := Lib.hid (HR4.out.ib.done #[.int .u64 (m0 : Int), .int .u64 (m1 : Int), .int .u64 (m2 : Int), .int .u64 (m3 : Int)] (faC 0 0))
            go_wp2_with (first | (refine wpList_store_row rfl TCl (.tmp 2) (.tmp 53) rfl rfl g2 TCl zCl #[.int .u64 (m0 : Int), .int .u64 (m1 : Int), .int .u64 (m2 : Int), .int .u64 (m3 : Int)] rfl rfl HR4.out.ib.h6 rfl infoCl (by simp [Value.oneCell']) ?_) | (refine wpList_store_row rfl TFa (.tmp 4) (.tmp 56) rfl rfl g4 TFa zFa (faC 0 0) rfl rfl HD.out.2.2.2 rfl infoFa (faC_one _ _) ?_))
            exact ret_item (p := 2) (q := 4) (r := 3) rfl rfl HD.out.2.1 Tryd.underlying28 rfl infoCl rfl HD.out.2.2.1 Tryd.underlying83 rfl infoFa rfl (ok_post HEQ.out HD.out.1)
end Go.Proofs.YthegepiafodpjaaDoor
