/-
  bracket: thing.
-/
import Derived.Test.YthegepiafodpjaaDoorBrN
import Derived.Test.YthegepiafodpjaaDoorOf
import Derived.Deep.CutBlock
namespace Go.Proofs.YthegepiafodpjaaDoor
open Go.RowKit

def OkC : TR → Prop
  | .ok set _ _ _ => IsC set
  | .bad _ _ => True
theorem name_okC (l : List Mk) (op i : Nat) : ∀ (f k : Nat) (text : List Int), OkC (nameM l op i f k text)
  | 0, _, _ => trivial
  | f + 1, k, text => by
    unfold nameM
    split
    · trivial
    · split
      · split
        · trivial
        · exact isC_named _ 23
      · exact name_okC l op i f (k + 1) _
theorem thing_okC (l : List Mk) (op i : Nat) : OkC (thingM l op i) := by
  unfold thingM
  split
  · trivial
  · split
    · exact name_okC l op i _ _ _
    · split
      · exact isC_ofL _
      · split
        · trivial
        · split
          · trivial
          · split
            · trivial
            · split
              · trivial
              · exact isC_ofL _
theorem trT_size {r : TR} (h : OkC r) : (trT r).size = 7 := by
  cases r with
  | ok set fin v next => exact thC_size set fin v next h.1
  | bad e p => rfl
theorem trT_one (r : TR) : ∀ u ∈ (trT r).toList, u.oneCell' = true := by cases r <;> exact thC_one _ _ _ _
theorem trF_one (r : TR) : ∀ u ∈ (trF r).toList, u.oneCell' = true := by cases r <;> exact faC_one _ _
theorem trF_size (r : TR) : (trF r).size = 2 := by cases r <;> rfl
/-- A thing in a box of its own. -/
structure T6 (w0 w : World) (g g4 g5 g6 : Nat) (a : Option Addr) (n c op : Nat) (l : List Mk) (fin : Bool) (v : Int) (next : Nat) : Prop where
  nb : NB w0 w g g4 g5 a n c op l
  h6 : w.heap[g6]? = some (.cells (thC noneL fin v next) TTh (0, 0))
  l6 : g5 + 1 ≤ g6
theorem T6.below {w0 w w' : World} {g g4 g5 g6 : Nat} {a : Option Addr} {n c op : Nat} {l : List Mk} {fin : Bool} {v : Int} {next : Nat} (h : T6 w0 w g g4 g5 g6 a n c op l fin v next) (hb : Below w.heap.size w w') : T6 w0 w' g g4 g5 g6 a n c op l fin v next :=
  ⟨h.nb.below hb, heap_b hb h.h6, h.l6⟩
theorem T6.set {w0 w : World} {g g4 g5 g6 : Nat} {a : Option Addr} {n c op : Nat} {l : List Mk} {fin : Bool} {v : Int} {next : Nat} (h : T6 w0 w g g4 g5 g6 a n c op l fin v next) (j : Nat) (x : Value) (fin' : Bool) (v' : Int) (next' : Nat) (he : (thC noneL fin v next).setIfInBounds j x = thC noneL fin' v' next') : T6 w0 (w.setCell ⟨g6, j, none⟩ x) g g4 g5 g6 a n c op l fin' v' next' := by
  refine ⟨h.nb.keep ((Below.refl _ _).setCell h.l6 _) (h.nb.rd.bel.setCell (by have := h.nb.l5; have := h.l6; show w0.heap.size ≤ g6; omega) _), ?_, h.l6⟩
  rw [heap_setCell_same w g6 j _ TTh x h.h6, he]
theorem T6.cell {w0 w : World} {g g4 g5 g6 : Nat} {a : Option Addr} {n c op : Nat} {l : List Mk} {fin : Bool} {v : Int} {next : Nat} (h : T6 w0 w g g4 g5 g6 a n c op l fin v next) : w.cell? ⟨g6, 0, none⟩ = some (.int .u64 0) ∧ w.cell? ⟨g6, 1, none⟩ = some (.int .u64 0) ∧ w.cell? ⟨g6, 2, none⟩ = some (.int .u64 0) ∧ w.cell? ⟨g6, 3, none⟩ = some (.int .u64 0) ∧ w.cell? ⟨g6, 4, none⟩ = some (.bool fin) ∧ w.cell? ⟨g6, 5, none⟩ = some (.int .u8 v) ∧ w.cell? ⟨g6, 6, none⟩ = some (.int .i64 (next : Int)) := by
  refine ⟨?_, ?_, ?_, ?_, ?_, ?_, ?_⟩ <;> (rw [cell_of_row _ _ _ _ _ (0, 0) h.h6]; rfl)
theorem T6.frozen {w0 w : World} {g g4 g5 g6 : Nat} {a : Option Addr} {n c op : Nat} {l : List Mk} {fin : Bool} {v : Int} {next : Nat} (h : T6 w0 w g g4 g5 g6 a n c op l fin v next) (j : Nat) : w.frozen? ⟨g6, j, none⟩ = false := frozen_of_row w g6 j _ _ h.h6
theorem T6.new {w0 w : World} {g g4 g5 : Nat} {a : Option Addr} {n c op : Nat} {l : List Mk} (h : NB w0 w g g4 g5 a n c op l) : ∃ w1 g6, w.alloc (.cells zTh TTh) = w1 ∧ w.heap.size = g6 ∧ T6 w0 w1 g g4 g5 g6 a n c op l false 0 0 := by
  refine ⟨_, _, rfl, rfl, h.below (box1 _ _), ?_, ?_⟩
  · rw [← zTh_is]; exact heap_alloc_new w _
  · have := (Array.getElem?_eq_some_iff.1 h.h5).1; omega
theorem T6.setc {w0 w : World} {g g4 g5 g6 : Nat} {a : Option Addr} {n c op : Nat} {l : List Mk} {fin : Bool} {v : Int} {next : Nat} (h : T6 w0 w g g4 g5 g6 a n c op l fin v next) (u0 u1 u2 u3 : Nat) :
    NB w0 ((((w.setCell ⟨g6, 0, none⟩ (.int .u64 (u0 : Int))).setCell ⟨g6, 1, none⟩ (.int .u64 (u1 : Int))).setCell ⟨g6, 2, none⟩ (.int .u64 (u2 : Int))).setCell ⟨g6, 3, none⟩ (.int .u64 (u3 : Int))) g g4 g5 a n c op l ∧
    ((((w.setCell ⟨g6, 0, none⟩ (.int .u64 (u0 : Int))).setCell ⟨g6, 1, none⟩ (.int .u64 (u1 : Int))).setCell ⟨g6, 2, none⟩ (.int .u64 (u2 : Int))).setCell ⟨g6, 3, none⟩ (.int .u64 (u3 : Int))).heap[g6]? = some (.cells (thC [u0, u1, u2, u3] fin v next) TTh (0, 0)) := by
  have hl := h.l6
  have hl5 : w0.heap.size ≤ g6 := by have := h.nb.l5; omega
  refine ⟨h.nb.keep (((((Below.refl _ _).setCell hl _).setCell hl _).setCell hl _).setCell hl _) ((((h.nb.rd.bel.setCell hl5 _).setCell hl5 _).setCell hl5 _).setCell hl5 _), ?_⟩
  have h1 := heap_setCell_same w g6 0 _ TTh (.int .u64 (u0 : Int)) h.h6
  have h2 := heap_setCell_same _ g6 1 _ TTh (.int .u64 (u1 : Int)) h1
  have h3 := heap_setCell_same _ g6 2 _ TTh (.int .u64 (u2 : Int)) h2
  have h4 := heap_setCell_same _ g6 3 _ TTh (.int .u64 (u3 : Int)) h3
  rw [h4]
  rfl
/-- What the switch leaves. -/
def SwP (w wx : World) (g g4 g5 g6 : Nat) (a : Option Addr) (n c op i : Nat) (l : List Mk) : Prop := ∃ fin v next, T6 w wx g g4 g5 g6 a n c op l fin v next ∧ thingM l op i = .ok (ofL [v]) fin v next ∧ 0 ≤ v ∧ v ≤ 255
theorem kind_in (l : List Mk) (i : Nat) : kindM l i = 58 ∨ kindM l i = 61 ∨ kindM l i = 46 ∨ kindM l i = 0 := by
  unfold kindM
  split
  · split
    · exact .inl rfl
    · split
      · exact .inr (.inl rfl)
      · split
        · exact .inr (.inr (.inl rfl))
        · exact .inr (.inr (.inr rfl))
  · exact .inr (.inr (.inr rfl))
theorem idx20 (w : World) (a0 a1 : Value) : Sem.run Tryd.prog (Instr.index 158 (.agg #[a0, a1]) (.int .i64 0)) w = .ok a0 w := by kernel_rfl
theorem idx21 (w : World) (a0 a1 : Value) : Sem.run Tryd.prog (Instr.index 158 (.agg #[a0, a1]) (.int .i64 1)) w = .ok a1 w := by kernel_rfl

theorem thing_long {l : List Mk} {op i : Nat} {kd : Int} (ho : over l i = false) (hk : kindM l i = kd) (h : kd = 61 ∨ kd = 46) : thingM l op i = (if over l (i + 3) = true then .bad 32 op else if sgn l (i + 3) kd = false then .bad 31 i else if over l (i + 4) = true then .bad 32 op else if sgn l (i + 4) 93 = false then .bad 31 i else .ok (ofL [byteM l (i + 2)]) (decide (kd = 46)) (byteM l (i + 2)) (i + 5)) := by
  unfold thingM
  rw [ho, hk, if_neg (by decide), if_neg (by rcases h with h | h <;> rw [h] <;> decide), if_neg (by rcases h with h | h <;> rw [h] <;> decide)]
set_option maxHeartbeats 4000000 in
set_option maxRecDepth 100000 in
theorem thing_any (w : World) (hw : BrW w) (a : Option Addr) (n c op i : Nat) (l : List Mk) (h : SM w (.slice a n c) l) :
    Calls Tryd.prog 72 #[rdV a n c op, .int .i64 (i : Int)] w (ThPost w (thingM l op i)) := by
  obtain ⟨hl, hn⟩ := h.len
  obtain ⟨w1, g, g4, g5, e1, e2, e3, e4, hN⟩ := NB.new (op := op) h hw
  have HL := Lib.hid hl
  have HM := Lib.hid h.1
  have HN := Lib.hid hN
  have E := Lib.hid (And.intro e1 (And.intro e2 (And.intro e3 e4)))
  clear h hw hl hN e1 e2 e3 e4
  go_enter Tryd.func72, Tryd.ntmps72
  go_upto_region 1 with fail
  rw [E.out.2.2.2, E.out.2.2.1, E.out.2.1, E.out.1]
  clear E
  have c0 := HN.out.rd.c0
  have c1 := HN.out.rd.c1
  go_wp2_with fail
  refine (over_any w1 a n c op i l HN.out.rd.sm).mono ?_
  rintro e w2 ⟨rfl, hb⟩
  have HN2 := Lib.hid (HN.out.below hb)
  clear c0 c1 hb HN
  have c0 := HN2.out.rd.c0
  have c1 := HN2.out.rd.c1
  cases ho : over l i with
  | true =>
    have HEQ : Hid (thingM l op i = .bad 32 op) := Lib.hid (by unfold thingM; rw [if_pos ho])
    clear ho
    go_wp2_with fail
    refine (unclosed_any w2 a n c op).mono ?_
    rintro e w3 ⟨rfl, hb⟩
    have HNB := Lib.hid (HN2.out.below hb)
    clear c0 c1 hb HN2
    obtain ⟨q1, q2, q3, q4⟩ := HNB.out.done (thC noneL false 0 0) (faC 32 op)
    have HQ := Lib.hid (And.intro q1 (And.intro q2 q3))
    clear q1 q2 q3
    go_wp2_with (first | (refine wpList_store_row rfl TTh (.tmp 4) (.tmp 13) rfl rfl g4 TTh (thC noneL false 0 0) (thC noneL false 0 0) rfl rfl HNB.out.h4 rfl infoTh (thC_one _ _ _ _) ?_) | (refine wpList_store_row rfl TFa (.tmp 5) (.tmp 15) rfl rfl g5 TFa (faC 0 0) (faC 32 op) rfl rfl q4 rfl infoFa (faC_one _ _) ?_))
    exact ret_two (p := 4) (q := 5) rfl rfl HQ.out.2.1 Tryd.underlying150 rfl infoTh rfl HQ.out.2.2 Tryd.underlying83 rfl infoFa rfl ⟨by rw [HEQ.out]; rfl, HQ.out.1⟩
  | false =>
    have hin : i < n := by
      unfold over at ho
      have := of_decide_eq_false ho
      rw [HL.out] at this
      omega
    have HO := Lib.hid ho
    clear ho
    obtain ⟨w3, g6, f1, f2, hT⟩ := T6.new HN2.out
    have F := Lib.hid (And.intro f1 f2)
    have HT := Lib.hid hT
    clear f1 f2 hT
    go_upto_region 4 with fail
    rw [F.out.2, F.out.1]
    clear F c0 c1 HN2
    have c0 := HT.out.nb.rd.c0
    have c1 := HT.out.nb.rd.c1
    go_wp2_with fail
    refine (kind_any w3 HT.out.nb.rd.br a n c op i l HT.out.nb.rd.sm (by omega)).mono ?_
    rintro e w4 ⟨rfl, hb⟩
    have HT4 := Lib.hid (HT.out.below hb)
    clear c0 c1 hb HT
    have c0 := HT4.out.nb.rd.c0
    have c1 := HT4.out.nb.rd.c1
    obtain ⟨kd, hkd⟩ : ∃ kd, kindM l i = kd := ⟨_, rfl⟩
    have hin4 := kind_in l i
    rw [hkd] at hin4 ⊢
    have HK := Lib.hid hkd
    clear hkd
    go_upto_block 0 with fail
    go_cut [] (fun wx => SwP w wx g g4 g5 g6 a n c op i l)
    case first =>
      rcases hin4 with rfl | rfl | rfl | rfl
      · have HEQ : Hid (thingM l op i = nameM l op i (l.length + 1) (i + 2) []) := Lib.hid (by unfold thingM; rw [HO.out, HK.out]; rfl)
        go_wp2_with fail
        refine (name_any w4 HT4.out.nb.rd.br a n c op i l HT4.out.nb.rd.sm hin).mono ?_
        rintro e w5 ⟨rfl, hb⟩
        have HNB := Lib.hid (HT4.out.nb.below hb)
        rw [← HEQ.out]
        have hok := thing_okC l op i
        obtain ⟨r, hr⟩ : ∃ r, thingM l op i = r := ⟨_, rfl⟩
        rw [hr] at hok ⊢
        unfold trV
        obtain ⟨q1, q2, q3, q4⟩ := HNB.out.done (trT r) (trF r)
        have HQ := Lib.hid (And.intro q1 (And.intro q2 q3))
        have hs1 := trT_size hok
        have hs2 := trF_size r
        have hs3 : (thC noneL false 0 0).size = (trT r).size := by rw [hs1]; rfl
        have hs4 : (faC 0 0).size = (trF r).size := by rw [hs2]; rfl
        have HS := Lib.hid (And.intro hs1 (And.intro hs2 (And.intro hs3 hs4)))
        clear q1 q2 q3 c0 c1 hb HT4 HEQ hok hs1 hs2 hs3 hs4
        have HRR := Lib.hid hr
        clear hr
        go_wp2_with (first | (refine wpList_store_row rfl TTh (.tmp 4) (.tmp 29) rfl rfl g4 TTh (thC noneL false 0 0) (trT r) rfl rfl HNB.out.h4 HS.out.2.2.1 (by rw [HS.out.1]; exact infoTh) (trT_one _) ?_) | (refine wpList_store_row rfl TFa (.tmp 5) (.tmp 30) rfl rfl g5 TFa (faC 0 0) (trF r) rfl rfl q4 HS.out.2.2.2 (by rw [HS.out.2.1]; exact infoFa) (trF_one _) ?_))
        exact ret_two (p := 4) (q := 5) rfl rfl HQ.out.2.1 Tryd.underlying150 rfl (by rw [HS.out.1]; exact infoTh) rfl HQ.out.2.2 Tryd.underlying83 rfl (by rw [HS.out.2.1]; exact infoFa) rfl ⟨by rw [HRR.out]; rfl, HQ.out.1⟩
      · have HLG := Lib.hid (thing_long (op := op) HO.out HK.out (by exact .inl rfl))
        have HA := HT4
        clear c0 c1 HT4
        go_upto_region 11 with fail
        generalize w4 = w5 at HA ⊢
        go_wp2_with fail
        refine (closer_any w5 HA.out.nb.rd.br 61 (by exact .inr (.inl rfl))).mono ?_
        rintro e w6 ⟨rfl, hb⟩
        have HB := Lib.hid (HA.out.below hb)
        clear hb HA
        go_wp2_with fail
        go_loopw [35] (fun v wr => ∃ k : Nat, k ≤ 2 ∧ v = .int .i64 k ∧ T6 w wr g g4 g5 g6 a n c op l false 0 0 ∧ (0 < k → over l (i + 3) = false ∧ sgn l (i + 3) 61 = true) ∧ (1 < k → over l (i + 4) = false ∧ sgn l (i + 4) 93 = true)) (fun v _ => 3 - (intOf v).toNat)
        case atStart => exact ⟨0, by omega, rfl, HB.out, fun h => absurd h (by omega), fun h => absurd h (by omega)⟩
        case round =>
          clear HB
          obtain ⟨k, hk2, rfl, hR, p1, p2⟩ := hrel
          have HP := Lib.hid (And.intro p1 p2)
          have HR := Lib.hid hR
          have c0 := hR.nb.rd.c0
          have c1 := hR.nb.rd.c1
          clear hR p1 p2
          rcases (by omega : k = 0 ∨ k = 1 ∨ k = 2) with rfl | rfl | rfl
          · have hix := fun w a0 a1 => idx20 w a0 a1
            go_wp2_with fail
            refine (over_any wr a n c op (i + 3) l HR.out.nb.rd.sm).mono ?_
            rintro e w7 ⟨rfl, hb⟩
            have HR2 := Lib.hid (HR.out.below hb)
            clear c0 c1 hb HR
            have c0 := HR2.out.nb.rd.c0
            have c1 := HR2.out.nb.rd.c1
            cases ho2 : over l (i + 3) with
            | true =>
              have HEQ : Hid (thingM l op i = .bad 32 op) := Lib.hid (by rw [HLG.out, ho2]; rfl)
              clear ho2
              go_wp2_with fail
              refine (unclosed_any w7 a n c op).mono ?_
              rintro e w8 ⟨rfl, hb⟩
              have HNB := Lib.hid (HR2.out.nb.below hb)
              clear c0 c1 hb HR2
              obtain ⟨q1, q2, q3, q4⟩ := HNB.out.done (thC noneL false 0 0) (faC 32 op)
              have HQ := Lib.hid (And.intro q1 (And.intro q2 q3))
              clear q1 q2 q3
              go_wp2_with (first | (refine wpList_store_row rfl TTh (.tmp 4) (.tmp 45) rfl rfl g4 TTh (thC noneL false 0 0) (thC noneL false 0 0) rfl rfl HNB.out.h4 rfl infoTh (thC_one _ _ _ _) ?_) | (refine wpList_store_row rfl TFa (.tmp 5) (.tmp 47) rfl rfl g5 TFa (faC 0 0) (faC 32 op) rfl rfl q4 rfl infoFa (faC_one _ _) ?_))
              exact ret_two (p := 4) (q := 5) rfl rfl HQ.out.2.1 Tryd.underlying150 rfl infoTh rfl HQ.out.2.2 Tryd.underlying83 rfl infoFa rfl ⟨by rw [HEQ.out]; rfl, HQ.out.1⟩
            | false =>
              have HO2 := Lib.hid ho2
              clear ho2
              go_wp2_with fail
              refine (sign_any w7 a n c op (i + 3) 61 l HR2.out.nb.rd.sm).mono ?_
              rintro e w8 ⟨rfl, hb⟩
              have HR3 := Lib.hid (HR2.out.below hb)
              clear c0 c1 hb HR2
              cases hs2 : sgn l (i + 3) 61 with
              | false =>
                have HEQ : Hid (thingM l op i = .bad 31 i) := Lib.hid (by rw [HLG.out, HO2.out, hs2]; rfl)
                clear hs2
                obtain ⟨q1, q2, q3, q4⟩ := HR3.out.nb.done (thC noneL false 0 0) (faC 31 i)
                have HQ := Lib.hid (And.intro q1 (And.intro q2 q3))
                clear q1 q2 q3
                go_wp2_with (first | (refine wpList_store_row rfl TTh (.tmp 4) (.tmp 56) rfl rfl g4 TTh (thC noneL false 0 0) (thC noneL false 0 0) rfl rfl HR3.out.nb.h4 rfl infoTh (thC_one _ _ _ _) ?_) | (refine wpList_store_row rfl TFa (.tmp 5) (.tmp 58) rfl rfl g5 TFa (faC 0 0) (faC 31 i) rfl rfl q4 rfl infoFa (faC_one _ _) ?_))
                exact ret_two (p := 4) (q := 5) rfl rfl HQ.out.2.1 Tryd.underlying150 rfl infoTh rfl HQ.out.2.2 Tryd.underlying83 rfl infoFa rfl ⟨by rw [HEQ.out]; rfl, HQ.out.1⟩
              | true =>
                have HS2 := Lib.hid hs2
                clear hs2
                go_wp2_with fail
                go_roundw
                case rel => exact ⟨1, by omega, rfl, HR3.out, fun _ => ⟨HO2.out, HS2.out⟩, fun h => absurd h (by omega)⟩
                case measure => simp [intOf]
          · have hix := fun w a0 a1 => idx21 w a0 a1
            go_wp2_with fail
            refine (over_any wr a n c op (i + 4) l HR.out.nb.rd.sm).mono ?_
            rintro e w7 ⟨rfl, hb⟩
            have HR2 := Lib.hid (HR.out.below hb)
            clear c0 c1 hb HR
            have c0 := HR2.out.nb.rd.c0
            have c1 := HR2.out.nb.rd.c1
            cases ho2 : over l (i + 4) with
            | true =>
              have HEQ : Hid (thingM l op i = .bad 32 op) := Lib.hid (by obtain ⟨ov3, sg3⟩ := HP.out.1 (by omega); rw [HLG.out, ov3, sg3, ho2]; rfl)
              clear ho2
              go_wp2_with fail
              refine (unclosed_any w7 a n c op).mono ?_
              rintro e w8 ⟨rfl, hb⟩
              have HNB := Lib.hid (HR2.out.nb.below hb)
              clear c0 c1 hb HR2
              obtain ⟨q1, q2, q3, q4⟩ := HNB.out.done (thC noneL false 0 0) (faC 32 op)
              have HQ := Lib.hid (And.intro q1 (And.intro q2 q3))
              clear q1 q2 q3
              go_wp2_with (first | (refine wpList_store_row rfl TTh (.tmp 4) (.tmp 45) rfl rfl g4 TTh (thC noneL false 0 0) (thC noneL false 0 0) rfl rfl HNB.out.h4 rfl infoTh (thC_one _ _ _ _) ?_) | (refine wpList_store_row rfl TFa (.tmp 5) (.tmp 47) rfl rfl g5 TFa (faC 0 0) (faC 32 op) rfl rfl q4 rfl infoFa (faC_one _ _) ?_))
              exact ret_two (p := 4) (q := 5) rfl rfl HQ.out.2.1 Tryd.underlying150 rfl infoTh rfl HQ.out.2.2 Tryd.underlying83 rfl infoFa rfl ⟨by rw [HEQ.out]; rfl, HQ.out.1⟩
            | false =>
              have HO2 := Lib.hid ho2
              clear ho2
              go_wp2_with fail
              refine (sign_any w7 a n c op (i + 4) 93 l HR2.out.nb.rd.sm).mono ?_
              rintro e w8 ⟨rfl, hb⟩
              have HR3 := Lib.hid (HR2.out.below hb)
              clear c0 c1 hb HR2
              cases hs2 : sgn l (i + 4) 93 with
              | false =>
                have HEQ : Hid (thingM l op i = .bad 31 i) := Lib.hid (by obtain ⟨ov3, sg3⟩ := HP.out.1 (by omega); rw [HLG.out, ov3, sg3, HO2.out, hs2]; rfl)
                clear hs2
                obtain ⟨q1, q2, q3, q4⟩ := HR3.out.nb.done (thC noneL false 0 0) (faC 31 i)
                have HQ := Lib.hid (And.intro q1 (And.intro q2 q3))
                clear q1 q2 q3
                go_wp2_with (first | (refine wpList_store_row rfl TTh (.tmp 4) (.tmp 56) rfl rfl g4 TTh (thC noneL false 0 0) (thC noneL false 0 0) rfl rfl HR3.out.nb.h4 rfl infoTh (thC_one _ _ _ _) ?_) | (refine wpList_store_row rfl TFa (.tmp 5) (.tmp 58) rfl rfl g5 TFa (faC 0 0) (faC 31 i) rfl rfl q4 rfl infoFa (faC_one _ _) ?_))
                exact ret_two (p := 4) (q := 5) rfl rfl HQ.out.2.1 Tryd.underlying150 rfl infoTh rfl HQ.out.2.2 Tryd.underlying83 rfl infoFa rfl ⟨by rw [HEQ.out]; rfl, HQ.out.1⟩
              | true =>
                have HS2 := Lib.hid hs2
                clear hs2
                go_wp2_with fail
                go_roundw
                case rel => exact ⟨2, by omega, rfl, HR3.out, fun _ => HP.out.1 (by omega), fun _ => ⟨HO2.out, HS2.out⟩⟩
                case measure => simp [intOf]
          · obtain ⟨ov4, sg4⟩ := HP.out.2 (by omega)
            obtain ⟨ov3, sg3⟩ := HP.out.1 (by omega)
            have h4n : i + 4 < n := by
              unfold over at ov4
              have := of_decide_eq_false ov4
              rw [HL.out] at this
              omega
            obtain ⟨bk, o, rfl, hrd⟩ := HR.out.nb.rd.sm0.read (i + 2) (by omega)
            obtain ⟨r0, r1⟩ := hrd (i + 2) (by omega)
            have hby : byteM l (i + 2) = (l[i + 2]?.getD (0, false)).1 := rfl
            rw [← hby] at r0
            have HBY := Lib.hid (HM.out (i + 2))
            obtain ⟨x, hx⟩ : ∃ x, byteM l (i + 2) = x := ⟨_, rfl⟩
            rw [hx] at r0
            have r0 := cell_b HR.out.nb.rd.bel r0
            have HTH : Hid (thingM l op i = .ok (ofL [x]) (decide ((61 : Int) = 46)) x (i + 5)) := Lib.hid (by rw [HLG.out, ov3, sg3, ov4, sg4, hx]; rfl)
            have HX := Lib.hid hx
            have HB := Lib.hid (HR.out.set 5 (.int .u8 x) false x 0 rfl)
            have HC := Lib.hid (HB.out.set 6 (.int .i64 ((i : Int) + 5)) false x (i + 5) (by go_num))
            obtain ⟨-, -, -, -, -, y5, -⟩ := HR.out.cell
            obtain ⟨-, -, -, -, -, -, z6⟩ := HB.out.cell
            have yf := HR.out.frozen 5
            have zf := HB.out.frozen 6
            have hi2 : (i : Int) + 2 < (n : Int) := by omega
            have hi0 : (0 : Int) ≤ (i : Int) + 2 := by omega
            have hti : ((i : Int) + 2).toNat = i + 2 := by omega
            clear hrd r1 hby hx ov3 ov4 sg3 sg4 c1
            go_wp2_with fail
            go_meet
            case rel => exact ⟨false, x, i + 5, HC.out, HTH.out, by rw [← HX.out]; exact HBY.out.1, by rw [← HX.out]; exact HBY.out.2⟩
      · have HLG := Lib.hid (thing_long (op := op) HO.out HK.out (by exact .inr rfl))
        have HA := Lib.hid (HT4.out.set 4 (.bool true) true 0 0 rfl)
        obtain ⟨-, -, -, -, x4, -, -⟩ := HT4.out.cell
        have xf := HT4.out.frozen 4
        clear c0 c1
        go_upto_region 11 with fail
        generalize w4.setCell ⟨g6, 4, none⟩ (.bool true) = w5 at HA ⊢
        clear x4 xf HT4
        go_wp2_with fail
        refine (closer_any w5 HA.out.nb.rd.br 46 (by exact .inr (.inr rfl))).mono ?_
        rintro e w6 ⟨rfl, hb⟩
        have HB := Lib.hid (HA.out.below hb)
        clear hb HA
        go_wp2_with fail
        go_loopw [35] (fun v wr => ∃ k : Nat, k ≤ 2 ∧ v = .int .i64 k ∧ T6 w wr g g4 g5 g6 a n c op l true 0 0 ∧ (0 < k → over l (i + 3) = false ∧ sgn l (i + 3) 46 = true) ∧ (1 < k → over l (i + 4) = false ∧ sgn l (i + 4) 93 = true)) (fun v _ => 3 - (intOf v).toNat)
        case atStart => exact ⟨0, by omega, rfl, HB.out, fun h => absurd h (by omega), fun h => absurd h (by omega)⟩
        case round =>
          clear HB
          obtain ⟨k, hk2, rfl, hR, p1, p2⟩ := hrel
          have HP := Lib.hid (And.intro p1 p2)
          have HR := Lib.hid hR
          have c0 := hR.nb.rd.c0
          have c1 := hR.nb.rd.c1
          clear hR p1 p2
          rcases (by omega : k = 0 ∨ k = 1 ∨ k = 2) with rfl | rfl | rfl
          · have hix := fun w a0 a1 => idx20 w a0 a1
            go_wp2_with fail
            refine (over_any wr a n c op (i + 3) l HR.out.nb.rd.sm).mono ?_
            rintro e w7 ⟨rfl, hb⟩
            have HR2 := Lib.hid (HR.out.below hb)
            clear c0 c1 hb HR
            have c0 := HR2.out.nb.rd.c0
            have c1 := HR2.out.nb.rd.c1
            cases ho2 : over l (i + 3) with
            | true =>
              have HEQ : Hid (thingM l op i = .bad 32 op) := Lib.hid (by rw [HLG.out, ho2]; rfl)
              clear ho2
              go_wp2_with fail
              refine (unclosed_any w7 a n c op).mono ?_
              rintro e w8 ⟨rfl, hb⟩
              have HNB := Lib.hid (HR2.out.nb.below hb)
              clear c0 c1 hb HR2
              obtain ⟨q1, q2, q3, q4⟩ := HNB.out.done (thC noneL false 0 0) (faC 32 op)
              have HQ := Lib.hid (And.intro q1 (And.intro q2 q3))
              clear q1 q2 q3
              go_wp2_with (first | (refine wpList_store_row rfl TTh (.tmp 4) (.tmp 45) rfl rfl g4 TTh (thC noneL false 0 0) (thC noneL false 0 0) rfl rfl HNB.out.h4 rfl infoTh (thC_one _ _ _ _) ?_) | (refine wpList_store_row rfl TFa (.tmp 5) (.tmp 47) rfl rfl g5 TFa (faC 0 0) (faC 32 op) rfl rfl q4 rfl infoFa (faC_one _ _) ?_))
              exact ret_two (p := 4) (q := 5) rfl rfl HQ.out.2.1 Tryd.underlying150 rfl infoTh rfl HQ.out.2.2 Tryd.underlying83 rfl infoFa rfl ⟨by rw [HEQ.out]; rfl, HQ.out.1⟩
            | false =>
              have HO2 := Lib.hid ho2
              clear ho2
              go_wp2_with fail
              refine (sign_any w7 a n c op (i + 3) 46 l HR2.out.nb.rd.sm).mono ?_
              rintro e w8 ⟨rfl, hb⟩
              have HR3 := Lib.hid (HR2.out.below hb)
              clear c0 c1 hb HR2
              cases hs2 : sgn l (i + 3) 46 with
              | false =>
                have HEQ : Hid (thingM l op i = .bad 31 i) := Lib.hid (by rw [HLG.out, HO2.out, hs2]; rfl)
                clear hs2
                obtain ⟨q1, q2, q3, q4⟩ := HR3.out.nb.done (thC noneL false 0 0) (faC 31 i)
                have HQ := Lib.hid (And.intro q1 (And.intro q2 q3))
                clear q1 q2 q3
                go_wp2_with (first | (refine wpList_store_row rfl TTh (.tmp 4) (.tmp 56) rfl rfl g4 TTh (thC noneL false 0 0) (thC noneL false 0 0) rfl rfl HR3.out.nb.h4 rfl infoTh (thC_one _ _ _ _) ?_) | (refine wpList_store_row rfl TFa (.tmp 5) (.tmp 58) rfl rfl g5 TFa (faC 0 0) (faC 31 i) rfl rfl q4 rfl infoFa (faC_one _ _) ?_))
                exact ret_two (p := 4) (q := 5) rfl rfl HQ.out.2.1 Tryd.underlying150 rfl infoTh rfl HQ.out.2.2 Tryd.underlying83 rfl infoFa rfl ⟨by rw [HEQ.out]; rfl, HQ.out.1⟩
              | true =>
                have HS2 := Lib.hid hs2
                clear hs2
                go_wp2_with fail
                go_roundw
                case rel => exact ⟨1, by omega, rfl, HR3.out, fun _ => ⟨HO2.out, HS2.out⟩, fun h => absurd h (by omega)⟩
                case measure => simp [intOf]
          · have hix := fun w a0 a1 => idx21 w a0 a1
            go_wp2_with fail
            refine (over_any wr a n c op (i + 4) l HR.out.nb.rd.sm).mono ?_
            rintro e w7 ⟨rfl, hb⟩
            have HR2 := Lib.hid (HR.out.below hb)
            clear c0 c1 hb HR
            have c0 := HR2.out.nb.rd.c0
            have c1 := HR2.out.nb.rd.c1
            cases ho2 : over l (i + 4) with
            | true =>
              have HEQ : Hid (thingM l op i = .bad 32 op) := Lib.hid (by obtain ⟨ov3, sg3⟩ := HP.out.1 (by omega); rw [HLG.out, ov3, sg3, ho2]; rfl)
              clear ho2
              go_wp2_with fail
              refine (unclosed_any w7 a n c op).mono ?_
              rintro e w8 ⟨rfl, hb⟩
              have HNB := Lib.hid (HR2.out.nb.below hb)
              clear c0 c1 hb HR2
              obtain ⟨q1, q2, q3, q4⟩ := HNB.out.done (thC noneL false 0 0) (faC 32 op)
              have HQ := Lib.hid (And.intro q1 (And.intro q2 q3))
              clear q1 q2 q3
              go_wp2_with (first | (refine wpList_store_row rfl TTh (.tmp 4) (.tmp 45) rfl rfl g4 TTh (thC noneL false 0 0) (thC noneL false 0 0) rfl rfl HNB.out.h4 rfl infoTh (thC_one _ _ _ _) ?_) | (refine wpList_store_row rfl TFa (.tmp 5) (.tmp 47) rfl rfl g5 TFa (faC 0 0) (faC 32 op) rfl rfl q4 rfl infoFa (faC_one _ _) ?_))
              exact ret_two (p := 4) (q := 5) rfl rfl HQ.out.2.1 Tryd.underlying150 rfl infoTh rfl HQ.out.2.2 Tryd.underlying83 rfl infoFa rfl ⟨by rw [HEQ.out]; rfl, HQ.out.1⟩
            | false =>
              have HO2 := Lib.hid ho2
              clear ho2
              go_wp2_with fail
              refine (sign_any w7 a n c op (i + 4) 93 l HR2.out.nb.rd.sm).mono ?_
              rintro e w8 ⟨rfl, hb⟩
              have HR3 := Lib.hid (HR2.out.below hb)
              clear c0 c1 hb HR2
              cases hs2 : sgn l (i + 4) 93 with
              | false =>
                have HEQ : Hid (thingM l op i = .bad 31 i) := Lib.hid (by obtain ⟨ov3, sg3⟩ := HP.out.1 (by omega); rw [HLG.out, ov3, sg3, HO2.out, hs2]; rfl)
                clear hs2
                obtain ⟨q1, q2, q3, q4⟩ := HR3.out.nb.done (thC noneL false 0 0) (faC 31 i)
                have HQ := Lib.hid (And.intro q1 (And.intro q2 q3))
                clear q1 q2 q3
                go_wp2_with (first | (refine wpList_store_row rfl TTh (.tmp 4) (.tmp 56) rfl rfl g4 TTh (thC noneL false 0 0) (thC noneL false 0 0) rfl rfl HR3.out.nb.h4 rfl infoTh (thC_one _ _ _ _) ?_) | (refine wpList_store_row rfl TFa (.tmp 5) (.tmp 58) rfl rfl g5 TFa (faC 0 0) (faC 31 i) rfl rfl q4 rfl infoFa (faC_one _ _) ?_))
                exact ret_two (p := 4) (q := 5) rfl rfl HQ.out.2.1 Tryd.underlying150 rfl infoTh rfl HQ.out.2.2 Tryd.underlying83 rfl infoFa rfl ⟨by rw [HEQ.out]; rfl, HQ.out.1⟩
              | true =>
                have HS2 := Lib.hid hs2
                clear hs2
                go_wp2_with fail
                go_roundw
                case rel => exact ⟨2, by omega, rfl, HR3.out, fun _ => HP.out.1 (by omega), fun _ => ⟨HO2.out, HS2.out⟩⟩
                case measure => simp [intOf]
          · obtain ⟨ov4, sg4⟩ := HP.out.2 (by omega)
            obtain ⟨ov3, sg3⟩ := HP.out.1 (by omega)
            have h4n : i + 4 < n := by
              unfold over at ov4
              have := of_decide_eq_false ov4
              rw [HL.out] at this
              omega
            obtain ⟨bk, o, rfl, hrd⟩ := HR.out.nb.rd.sm0.read (i + 2) (by omega)
            obtain ⟨r0, r1⟩ := hrd (i + 2) (by omega)
            have hby : byteM l (i + 2) = (l[i + 2]?.getD (0, false)).1 := rfl
            rw [← hby] at r0
            have HBY := Lib.hid (HM.out (i + 2))
            obtain ⟨x, hx⟩ : ∃ x, byteM l (i + 2) = x := ⟨_, rfl⟩
            rw [hx] at r0
            have r0 := cell_b HR.out.nb.rd.bel r0
            have HTH : Hid (thingM l op i = .ok (ofL [x]) (decide ((46 : Int) = 46)) x (i + 5)) := Lib.hid (by rw [HLG.out, ov3, sg3, ov4, sg4, hx]; rfl)
            have HX := Lib.hid hx
            have HB := Lib.hid (HR.out.set 5 (.int .u8 x) true x 0 rfl)
            have HC := Lib.hid (HB.out.set 6 (.int .i64 ((i : Int) + 5)) true x (i + 5) (by go_num))
            obtain ⟨-, -, -, -, -, y5, -⟩ := HR.out.cell
            obtain ⟨-, -, -, -, -, -, z6⟩ := HB.out.cell
            have yf := HR.out.frozen 5
            have zf := HB.out.frozen 6
            have hi2 : (i : Int) + 2 < (n : Int) := by omega
            have hi0 : (0 : Int) ≤ (i : Int) + 2 := by omega
            have hti : ((i : Int) + 2).toNat = i + 2 := by omega
            clear hrd r1 hby hx ov3 ov4 sg3 sg4 c1
            go_wp2_with fail
            go_meet
            case rel => exact ⟨true, x, i + 5, HC.out, HTH.out, by rw [← HX.out]; exact HBY.out.1, by rw [← HX.out]; exact HBY.out.2⟩
      · obtain ⟨bk, o, rfl, hrd⟩ := HT4.out.nb.rd.sm0.read i hin
        obtain ⟨r0, r1⟩ := hrd i hin
        have hby : byteM l i = (l[i]?.getD (0, false)).1 := rfl
        rw [← hby] at r0
        have HBY := Lib.hid (HM.out i)
        obtain ⟨x, hx⟩ : ∃ x, byteM l i = x := ⟨_, rfl⟩
        rw [hx] at r0
        have hbk : bk ≠ g6 := by have := World.block_lt_of_cell? w _ r0; have := HT4.out.nb.l5; have := HT4.out.l6; simp only at *; omega
        replace r0 := cell_b HT4.out.nb.rd.bel r0
        have HX := Lib.hid hx
        have HA := Lib.hid (HT4.out.set 4 (.bool true) true 0 0 rfl)
        have HB := Lib.hid (HA.out.set 5 (.int .u8 x) true x 0 rfl)
        have HC := Lib.hid (HB.out.set 6 (.int .i64 ((i : Int) + 1)) true x (i + 1) (by go_num))
        obtain ⟨-, -, -, -, x4, -, -⟩ := HT4.out.cell
        obtain ⟨-, -, -, -, -, y5, -⟩ := HA.out.cell
        obtain ⟨-, -, -, -, -, -, z6⟩ := HB.out.cell
        have xf := HT4.out.frozen 4
        have yf := HA.out.frozen 5
        have zf := HB.out.frozen 6
        have a0 := HA.out.nb.rd.c0
        have ra : (w4.setCell ⟨g6, 4, none⟩ (.bool true)).cell? ⟨bk, o + i * 2, none⟩ = some (.int .u8 x) := by rw [World.cell?_of_block (heap_setCell_other w4 ⟨g6, 4, none⟩ bk (.bool true) hbk)]; exact r0
        clear hrd r1 hby hx c0 c1
        go_wp2_with fail
        go_meet
        case rel => exact ⟨true, x, i + 1, HC.out, by unfold thingM; rw [HO.out, HK.out, ← HX.out]; rfl, by rw [← HX.out]; exact HBY.out.1, by rw [← HX.out]; exact HBY.out.2⟩
    case rest =>
      obtain ⟨fin, v, next, hT, hth, hv0, hv1⟩ := hcut
      have HTH := Lib.hid (And.intro hth (And.intro hv0 hv1))
      generalize wc = w5 at hT ⊢
      have HT := Lib.hid hT
      obtain ⟨y0, y1, y2, y3, y4, y5, y6⟩ := hT.cell
      have f0 := hT.frozen 0
      have f1 := hT.frozen 1
      have f2 := hT.frozen 2
      have f3 := hT.frozen 3
      clear hth hT c0 c1 hin4
      go_wp2_with fail
      refine (of_any _ _ [v] (SB.lit w5 5 [v] _ (0, 0) 1 rfl (by simp; omega) (by simp))).mono ?_
      rintro e w6 ⟨rfl, hb⟩
      have hT6 := (HT.out.below (box1 w5 (.cells #[.int .u8 v] 5))).below hb
      obtain ⟨u0, u1, u2, u3, hu⟩ := isC_words (ofL [v]) (isC_ofL _)
      rw [hu, show row64 [u0, u1, u2, u3] = #[.int .u64 (u0 : Int), .int .u64 (u1 : Int), .int .u64 (u2 : Int), .int .u64 (u3 : Int)] from rfl]
      obtain ⟨hNB, h6⟩ := hT6.setc u0 u1 u2 u3
      clear y0 y1 y2 y3 y4 y5 y6 f0 f1 f2 f3
      obtain ⟨y0, y1, y2, y3, -, -, -⟩ := hT6.cell
      have f0 := hT6.frozen 0
      have f1 := hT6.frozen 1
      have f2 := hT6.frozen 2
      have f3 := hT6.frozen 3
      have HU := Lib.hid hu
      have HNB := Lib.hid hNB
      have H6 := Lib.hid h6
      clear hT6 hb hu hNB h6 HT
      go_upto_region 25 with fail
      generalize (((w6.setCell ⟨g6, 0, none⟩ (.int .u64 (u0 : Int))).setCell ⟨g6, 1, none⟩ (.int .u64 (u1 : Int))).setCell ⟨g6, 2, none⟩ (.int .u64 (u2 : Int))).setCell ⟨g6, 3, none⟩ (.int .u64 (u3 : Int)) = w7 at HNB H6 ⊢
      clear y0 y1 y2 y3 f0 f1 f2 f3
      obtain ⟨q1, q2, q3, q4⟩ := HNB.out.done (thC [u0, u1, u2, u3] fin v next) (faC 0 0)
      have HQ := Lib.hid (And.intro q1 (And.intro q2 q3))
      clear q1 q2 q3
      go_wp2_with (first | (refine wpList_load_row rfl TTh _ rfl g6 rfl TTh (thC [u0, u1, u2, u3] fin v next) (0, 0) _ H6.out Tryd.underlying150 rfl infoTh ?_) | (refine wpList_store_row rfl TTh (.tmp 4) (.tmp 87) rfl rfl g4 TTh (thC noneL false 0 0) (thC [u0, u1, u2, u3] fin v next) rfl rfl HNB.out.h4 rfl infoTh (thC_one _ _ _ _) ?_) | (refine wpList_store_row rfl TFa (.tmp 5) (.tmp 88) rfl rfl g5 TFa (faC 0 0) (faC 0 0) rfl rfl q4 rfl infoFa (faC_one _ _) ?_))
      exact ret_two (p := 4) (q := 5) rfl rfl HQ.out.2.1 Tryd.underlying150 rfl infoTh rfl HQ.out.2.2 Tryd.underlying83 rfl infoFa rfl ⟨by rw [HTH.out.1, HU.out]; rfl, HQ.out.1⟩
end Go.Proofs.YthegepiafodpjaaDoor
