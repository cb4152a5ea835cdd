/-
  galleyref04.Print.
-/
import Derived.Test.YthegepiafodpjaaDoorBrR
namespace Go.Proofs.YthegepiafodpjaaDoor
open Go.RowKit

theorem cells4r {w : World} {g : Nat} {u0 u1 u2 u3 : Nat} {T : TypeId} (h : w.heap[g]? = some (.cells (row64 [u0, u1, u2, u3]) T (0, 0))) :
    w.cell? ⟨g, 0, none⟩ = some (.int .u64 (u0 : Int)) ∧ w.cell? ⟨g, 1, none⟩ = some (.int .u64 (u1 : Int)) ∧ w.cell? ⟨g, 2, none⟩ = some (.int .u64 (u2 : Int)) ∧ w.cell? ⟨g, 3, none⟩ = some (.int .u64 (u3 : Int)) := by
  refine ⟨?_, ?_, ?_, ?_⟩ <;> (rw [cell_of_row _ _ _ _ _ (0, 0) h]; rfl)
/-- The loop over the runs: the marks, the runs. -/
structure RM4 (w0 : World) (B B2 : Nat) (vr : Value) (rs : List (Nat × Nat)) (wr : World) (v : Value) (l : List Mk) : Prop where
  tx : OwnM wr B v l
  runs : OwnRn wr B2 vr rs
  ap : Apart v vr
  bel : Below w0.heap.size w0 wr
  le : w0.heap.size ≤ B
  size : B ≤ wr.heap.size
theorem RM4.below {w0 wr w' : World} {B B2 : Nat} {vr v : Value} {rs : List (Nat × Nat)} {l : List Mk} (h : RM4 w0 B B2 vr rs wr v l) (hb : Below wr.heap.size wr w') : RM4 w0 B B2 vr rs w' v l :=
  ⟨h.tx.below hb, h.runs.below hb, h.ap, h.bel.trans (hb.mono h.bel.size), h.le, Nat.le_trans h.size hb.size⟩
theorem RM4.app {w0 wr w' : World} {B B2 : Nat} {vr v v' : Value} {rs : List (Nat × Nat)} {l l' : List Mk} (h : RM4 w0 B B2 vr rs wr v l) (ho : OwnM w' B v' (l ++ l')) (hA : AppPost wr w' B v v') : RM4 w0 B B2 vr rs w' v' (l ++ l') := by
  obtain ⟨h1, h2⟩ := hA.other _ _ _ _ _ _ h.runs h.ap
  exact ⟨ho, h1, h2, hA.bel _ _ h.bel h.le, h.le, Nat.le_trans h.size hA.size⟩
theorem RM4.at_ {w0 wr : World} {B B2 g m cap : Nat} {v : Value} {rs : List (Nat × Nat)} {l : List Mk} (h : RM4 w0 B B2 (.slice (some ⟨g, 0, none⟩) m cap) rs wr v l) (hm : rs.length = m) (k : Nat) (hk : k < m) :
    wr.cell? ⟨g, k * 2, none⟩ = some (.int .u8 ((rs[k]?.getD (0, 0)).1 : Int)) ∧ wr.cell? ⟨g, k * 2 + 1, none⟩ = some (.int .u8 ((rs[k]?.getD (0, 0)).2 : Int)) := by
  obtain ⟨g', cap', e, hA⟩ := h.runs.at_ (by omega)
  simp only [Value.slice.injEq, Option.some.injEq, Addr.mk.injEq] at e
  have := e.1.1
  subst this
  exact hA k (by omega)

theorem isM_wr (b : Nat) (h : b ≤ 255) : IsM (sg (wrI b)) := isM_sg4 _ (by
  rw [List.all_eq_true]
  intro x hx
  unfold wrI at hx
  split at hx
  · simp only [List.mem_cons, List.not_mem_nil, or_false] at hx
    rcases hx with rfl | rfl | rfl | rfl | rfl
    all_goals simp
    all_goals omega
  · rw [List.mem_singleton] at hx
    subst hx
    simp
    omega)
/-- The first mark and the class. -/
structure PM4 (w wr : World) (v : Value) (l : List Mk) (c : List Nat) : Prop where
  box : wr.heap[w.heap.size]? = some (.cells (row64 c) 28 (0, 0))
  tx : OwnM wr (w.heap.size + 1) v l
  bel : Below w.heap.size w wr
  size : w.heap.size + 1 ≤ wr.heap.size
theorem PM4.below {w wr w' : World} {v : Value} {l : List Mk} {c : List Nat} (h : PM4 w wr v l c) (hb : Below wr.heap.size wr w') : PM4 w w' v l c :=
  ⟨heap_b hb h.box, h.tx.below hb, h.bel.trans (hb.mono h.bel.size), Nat.le_trans h.size hb.size⟩
theorem PM4.app {w wr w' : World} {v v' : Value} {l l' : List Mk} {c : List Nat} (h : PM4 w wr v l c) (ho : OwnM w' (w.heap.size + 1) v' (l ++ l')) (hA : AppPost wr w' (w.heap.size + 1) v v') : PM4 w w' v' (l ++ l') c := by
  refine ⟨?_, ho, hA.bel _ _ h.bel (by omega), Nat.le_trans h.size hA.size⟩
  rw [hA.block w.heap.size (by have := h.size; omega) (fun e => by have := (World.ownsRow.lt h.tx _ e).1; omega)]
  exact h.box
theorem PM4.row {w wr : World} {v : Value} {l : List Mk} {c : List Nat} (h : PM4 w wr v l c) (c' : List Nat) : PM4 w (wr.setRow w.heap.size (row64 c')) v l c' :=
  ⟨setRow_heap _ _ _ _ _ _ h.box, own_setRow4 h.tx _ (by omega) _, below_setRow h.bel (Nat.le_refl _) _, by simpa using h.size⟩
theorem PM4.new (w : World) (c : List Nat) : PM4 w ((w.alloc (.cells (row64 c) 28)).alloc (.cells #[.int .u8 91, .bool false] 35)) (.slice (some ⟨w.heap.size + 1, 0, none⟩) 1 1) [(91, false)] c := by
  have n1 := heap_alloc_new w (.cells (row64 c) 28)
  have b1 := box1 w (.cells (row64 c) 28)
  have e1 : (w.alloc (.cells (row64 c) 28)).heap.size = w.heap.size + 1 := by simp
  generalize w.alloc (.cells (row64 c) 28) = w1 at n1 b1 e1 ⊢
  have b2 := box1 w1 (.cells #[.int .u8 91, .bool false] 35)
  have o2 := OwnM.lit w1 [(91, false)] #[.int .u8 91, .bool false] 1 rfl rfl (by decide) (w.heap.size + 1) (by omega)
  rw [e1] at o2
  exact ⟨heap_b b2 n1, o2, b1.trans (b2.mono b1.size), by have := b2.size; omega⟩

set_option maxHeartbeats 4000000 in
set_option maxRecDepth 100000 in
theorem refPrint_any (w : World) (c : List Nat) (hc : IsC c) :
    Calls Tryd.prog 17 #[.agg (row64 c)] w fun e w' => ∃ v, e = .returned v ∧ OwnM w' w.heap.size v (sg (printI c)) ∧ Below w.heap.size w w' := by
  obtain ⟨q0, q1, q2, q3, rfl⟩ := isC_words c hc
  have HN := Lib.hid (PM4.new w [q0, q1, q2, q3])
  have HC := Lib.hid hc
  clear hc
  rw [show row64 [q0, q1, q2, q3] = #[.int .u64 (q0 : Int), .int .u64 (q1 : Int), .int .u64 (q2 : Int), .int .u64 (q3 : Int)] from rfl] at HN ⊢
  obtain ⟨g, hg⟩ : ∃ g, w.heap.size = g := ⟨_, rfl⟩
  go_enter Tryd.func17, Tryd.ntmps17
  go_upto_region 2 with fail
  rw [hg] at HN
  have HG := Lib.hid hg
  clear hg
  generalize (w.alloc (.cells #[.int .u64 (q0 : Int), .int .u64 (q1 : Int), .int .u64 (q2 : Int), .int .u64 (q3 : Int)] 28)).alloc (.cells #[.int .u8 91, .bool false] 35) = w1 at HN ⊢
  generalize Value.slice (some ⟨g + 1, 0, none⟩) 1 1 = v1 at HN ⊢
  obtain ⟨c0, c1, c2, c3⟩ := cells4r (HG.out ▸ HN.out.box)
  go_wp2_with fail
  refine (refSize_any w1 [q0, q1, q2, q3] HC.out).mono ?_
  rintro e w2 ⟨rfl, hb⟩
  have HN2 := Lib.hid (HN.out.below hb)
  have hz := size_zero _ HC.out
  have hf := size_full _ HC.out
  have hle := cnt_le [q0, q1, q2, q3] 256
  have HNP : Hid (notP [q0, q1, q2, q3] = (decide ([q0, q1, q2, q3] = noneL) || (hasL [q0, q1, q2, q3] 10 && !decide (notL [q0, q1, q2, q3] = noneL)))) := Lib.hid rfl
  clear c0 c1 c2 c3 hb HN
  generalize cntL [q0, q1, q2, q3] 256 = n at hz hf hle ⊢
  obtain ⟨np, hnp⟩ : ∃ np, notP [q0, q1, q2, q3] = np := ⟨_, rfl⟩
  rw [hnp] at HNP
  have HNPE := Lib.hid hnp
  clear hnp
  go_upto_if 12 with fail
  go_cut [3] (fun v wx => PM4 w wx v (sg (hdP np)) (inP [q0, q1, q2, q3]))
  case first =>
    by_cases hn0 : n = 0
    · have hnone := hz.1 hn0
      have hnt : np = true := by rw [HNP.out, decide_eq_true hnone]; rfl
      subst hnt hn0
      have HI : Hid (inP [q0, q1, q2, q3] = rangeL 0 255) := Lib.hid (by unfold inP; rw [HNPE.out, if_pos rfl, hnone, range_all])
      clear hz hf hle hnone HNP
      have HTa := Lib.hid (HN2.out.below (box1 w2 (.cells #[.int .u8 94, .bool false] 35)))
      go_upto_region 5 with (at_builtin; refine append_mk rfl (.tmp 13) (.tmp 15) rfl (w.heap.size + 1) _ [(91, false)] [(94, false)] _ 1 rfl rfl rfl HN2.out.tx rfl (by simp) HN2.out.size ?_; intro v5 w5 h1 h2; have HN5 := Lib.hid (HN2.out.app h1 h2); clear h1 h2)
      go_wp2_with fail
      refine (refRange_any w5 0 255 (by omega) (by omega)).mono ?_
      rintro e w6 ⟨rfl, hb⟩
      have HN6 := Lib.hid (HN5.out.below hb)
      obtain ⟨x0, x1, x2, x3, hx⟩ := isC_words _ (isC_rangeL4 0 255)
      have HX := Lib.hid hx
      rw [show row64 (rangeL 0 255) = #[.int .u64 (x0 : Int), .int .u64 (x1 : Int), .int .u64 (x2 : Int), .int .u64 (x3 : Int)] by rw [hx]; rfl]
      clear hx hb HN5
      have HBX : Hid (w6.heap[g]? = some (.cells #[.int .u64 (q0 : Int), .int .u64 (q1 : Int), .int .u64 (q2 : Int), .int .u64 (q3 : Int)] 28 (0, 0))) := Lib.hid (HG.out ▸ HN6.out.box)
      go_wp2_with (refine wpList_store_row rfl TCl (.tmp 1) (.tmp 17) rfl rfl g TCl #[.int .u64 (q0 : Int), .int .u64 (q1 : Int), .int .u64 (q2 : Int), .int .u64 (q3 : Int)] #[.int .u64 (x0 : Int), .int .u64 (x1 : Int), .int .u64 (x2 : Int), .int .u64 (x3 : Int)] rfl rfl HBX.out rfl infoCl (by simp [Value.oneCell']) ?_)
      go_meet
      case rel =>
        have hgs := HG.out
        rw [HI.out, HX.out, ← hgs]
        exact HN6.out.row [x0, x1, x2, x3]
    · have hnb : ((n : Int) == 0) = false := by simp; omega
      have hnone : [q0, q1, q2, q3] ≠ noneL := fun e => hn0 (hz.2 e)
      by_cases hn256 : n = 256
      · have hnl := hf.1 hn256
        have hnt : np = false := by rw [HNP.out, decide_eq_false hnone, decide_eq_true hnl]; simp
        have hd : decide ((n : Int) < 256) = false := decide_eq_false (by omega)
        have HI : Hid (inP [q0, q1, q2, q3] = [q0, q1, q2, q3]) := Lib.hid (by unfold inP; rw [HNPE.out, hnt]; rfl)
        subst hnt
        clear hz hf hle hnl HNP hnone hn0 hn256
        go_wp2_with fail
        go_meet
        case rel => rw [HI.out]; exact HN2.out
      · have hnl : notL [q0, q1, q2, q3] ≠ noneL := fun e => hn256 (hf.2 e)
        have hd : decide ((n : Int) < 256) = true := decide_eq_true (by omega)
        obtain ⟨c0, c1, c2, c3⟩ := cells4r (HG.out ▸ HN2.out.box)
        have hnp2 : np = hasL [q0, q1, q2, q3] 10 := by rw [HNP.out, decide_eq_false hnone, decide_eq_false hnl]; simp
        clear hz hf hle HNP hnone hn0 hn256 hnl
        go_wp2_with fail
        refine (refHas_any w2 [q0, q1, q2, q3] HC.out 10 (by omega)).mono ?_
        rintro e w3 ⟨rfl, hb⟩
        rw [← hnp2]
        have HN3 := Lib.hid (HN2.out.below hb)
        clear c0 c1 c2 c3 hnp2 hb HN2
        cases np with
        | false =>
          have HI : Hid (inP [q0, q1, q2, q3] = [q0, q1, q2, q3]) := Lib.hid (by unfold inP; rw [HNPE.out]; rfl)
          go_wp2_with fail
          go_meet
          case rel => rw [HI.out]; exact HN3.out
        | true =>
          have HI : Hid (inP [q0, q1, q2, q3] = notL [q0, q1, q2, q3]) := Lib.hid (by unfold inP; rw [HNPE.out]; rfl)
          have HTa := Lib.hid (HN3.out.below (box1 w3 (.cells #[.int .u8 94, .bool false] 35)))
          go_upto_region 8 with (at_builtin; refine append_mk rfl (.tmp 24) (.tmp 26) rfl (w.heap.size + 1) _ [(91, false)] [(94, false)] _ 1 rfl rfl rfl HN3.out.tx rfl (by simp) HN3.out.size ?_; intro v5 w5 h1 h2; have HN5 := Lib.hid (HN3.out.app h1 h2); clear h1 h2)
          obtain ⟨c0, c1, c2, c3⟩ := cells4r (HG.out ▸ HN5.out.box)
          go_wp2_with fail
          clear c0 c1 c2 c3
          refine (refNot_any w5 [q0, q1, q2, q3] HC.out).mono ?_
          rintro e w6 ⟨rfl, hb⟩
          have HN6 := Lib.hid (HN5.out.below hb)
          obtain ⟨x0, x1, x2, x3, hx⟩ := isC_words _ (isC_not _ HC.out)
          have HX := Lib.hid hx
          rw [show row64 (notL [q0, q1, q2, q3]) = #[.int .u64 (x0 : Int), .int .u64 (x1 : Int), .int .u64 (x2 : Int), .int .u64 (x3 : Int)] by rw [hx]; rfl]
          clear hx hb HN5
          have HBX : Hid (w6.heap[g]? = some (.cells #[.int .u64 (q0 : Int), .int .u64 (q1 : Int), .int .u64 (q2 : Int), .int .u64 (q3 : Int)] 28 (0, 0))) := Lib.hid (HG.out ▸ HN6.out.box)
          go_wp2_with (refine wpList_store_row rfl TCl (.tmp 1) (.tmp 29) rfl rfl g TCl #[.int .u64 (q0 : Int), .int .u64 (q1 : Int), .int .u64 (q2 : Int), .int .u64 (q3 : Int)] #[.int .u64 (x0 : Int), .int .u64 (x1 : Int), .int .u64 (x2 : Int), .int .u64 (x3 : Int)] rfl rfl HBX.out rfl infoCl (by simp [Value.oneCell']) ?_)
          go_meet
          case rel =>
            have hgs := HG.out
            rw [HI.out, HX.out, ← hgs]
            exact HN6.out.row [x0, x1, x2, x3]
  case rest =>
    have hP := hcut
    clear HN2 HNP hz hf hle
    generalize wc = w7 at hP ⊢
    obtain ⟨x0, x1, x2, x3, hx⟩ := isC_words _ (inP_isC _ HC.out)
    have HX := Lib.hid hx
    have HXC : Hid (IsC [x0, x1, x2, x3]) := Lib.hid (hx ▸ inP_isC _ HC.out)
    rw [hx] at hP
    have HP7 := Lib.hid hP
    clear hP hx
    obtain ⟨c0, c1, c2, c3⟩ := cells4r (HG.out ▸ HP7.out.box)
    go_wp2_with fail
    refine (refRuns_any w7 [x0, x1, x2, x3] HXC.out).mono ?_
    rintro e w8 ⟨vr, rfl, hO, hb⟩
    clear c0 c1 c2 c3
    have HRS : Hid (runsOf (elemsL [x0, x1, x2, x3]) = runsP [q0, q1, q2, q3]) := Lib.hid (by unfold runsP; rw [HX.out])
    rw [HRS.out] at hO
    have HPU := Lib.hid (printI_up [q0, q1, q2, q3])
    have hm256 := runsP_len [q0, q1, q2, q3]
    have hm0 : 0 < (runsP [q0, q1, q2, q3]).length := List.length_pos_iff.2 (runsP_ne _ HC.out)
    have HOK := Lib.hid (runsP_ok [q0, q1, q2, q3])
    rw [HNPE.out] at HPU
    generalize runsP [q0, q1, q2, q3] = rs at hO HPU hm256 hm0 HOK
    have HRW : Hid (RM4 w (w.heap.size + 1) w7.heap.size vr rs w8 u3 (sg (hdP np))) := Lib.hid ⟨HP7.out.tx.below hb, hO, fun k e1 e2 => by
        have h1 := (World.ownsRow.lt HP7.out.tx k e1).2
        have h2 := (World.ownsRow.lt hO k e2).1
        omega, HP7.out.bel.trans (hb.mono HP7.out.bel.size), by omega, Nat.le_trans HP7.out.size hb.size⟩
    obtain ⟨g8, cap8, hvr, -⟩ := hO.at_ hm0
    clear HP7 HX HXC HRS hb hO
    obtain ⟨m, hm⟩ : ∃ m, rs.length = m := ⟨_, rfl⟩
    rw [hm] at hvr hm256 hm0
    have HM := Lib.hid hm
    subst hvr
    clear hm
    generalize w7.heap.size = B2 at HRW
    have HRS : Hid (∀ r, r ∈ rs → r.1 ≤ r.2 ∧ r.1 ≤ 255 ∧ r.2 ≤ 255) := Lib.hid (fun r hr => by have := HOK.out r hr; omega)
    clear HOK
    go_wp2_with fail
    go_loopw [3, 6] (fun v i wr => ∃ k : Nat, k ≤ m ∧ i = .int .i64 k ∧ RM4 w (w.heap.size + 1) B2 (.slice (some ⟨g8, 0, none⟩) m cap8) rs wr v (sg (upP np rs k))) (fun _ i _ => m - (intOf i).toNat)
    case atStart => exact ⟨0, by omega, rfl, by rw [upP_zero]; exact HRW.out⟩
    case round =>
      clear HRW
      obtain ⟨k, hk, rfl, hR⟩ := hrel
      have hlen := (upP_len np rs k (by rw [HM.out]; exact hm256)).1
      rw [← sg_len] at hlen
      by_cases hlt : k < m
      · have HST := Lib.hid (upP_step np rs k (by rw [HM.out]; exact hlt))
        have hok := HRS.out (rs[k]?.getD (0, 0)) (by rw [List.getElem?_eq_getElem (by rw [HM.out]; exact hlt)]; exact List.getElem_mem _)
        have HAT := Lib.hid (fun w' v' l' (h : RM4 w (w.heap.size + 1) B2 (.slice (some ⟨g8, 0, none⟩) m cap8) rs w' v' l') => RM4.at_ h HM.out k hlt)
        have HR := Lib.hid hR
        generalize rs[k]?.getD (0, 0) = r at HST hok HAT
        obtain ⟨lo, hi⟩ := r
        dsimp only at hok
        obtain ⟨hle, hlo, hhi⟩ := hok
        clear hR
        obtain ⟨r1, r2⟩ := HAT.out _ _ _ HR.out
        dsimp only at r1 r2
        go_wp2_with fail
        refine (byteOf_any wr lo hlo).mono ?_
        rintro e wb ⟨ad, rfl, hs, hb⟩
        have hw1 := wrI_len lo
        have HS := Lib.hid (hs.sm (isM_wr lo hlo) (by rw [sg_len]; omega))
        generalize hnl : (wrI lo).length = nl at HS hw1 ⊢
        have HR2 := Lib.hid (HR.out.below hb)
        have HNL := Lib.hid hnl
        obtain ⟨X, hX⟩ : ∃ X, sg (upP np rs k) = X := ⟨_, rfl⟩
        rw [hX] at HR2 hlen
        have HXX := Lib.hid hX
        clear r1 r2 hs hb HR hnl hX
        go_upto_region 14 with (at_builtin; refine append_sm rfl (.tmp 38) (.tmp 44) rfl (w.heap.size + 1) _ X (sg (wrI lo)) (some ad) nl nl rfl HR2.out.tx rfl (fun h => by cases h) HS.out (by omega) HR2.out.size ?_; intro v3 wd ho hA; obtain ⟨T1, hT1⟩ : ∃ T1, X ++ sg (wrI lo) = T1 := ⟨_, rfl⟩; have hR3 := HR2.out.app ho hA; have hl1 : T1.length ≤ 3000 := by { rw [← hT1, List.length_append, sg_len, HNL.out]; omega }; rw [hT1] at hR3; have HR3 := Lib.hid hR3; have HT1 := Lib.hid hT1; clear ho hA hR3 hT1 HS HR2)
        obtain ⟨r1, r2⟩ := HAT.out _ _ _ HR3.out
        have HDD := Lib.hid (fun q => HR3.out.below (below_drewN (Below.refl _ wd) q))
        by_cases hne : lo = hi
        · have hd : decide ((lo : Int) < (hi : Int)) = false := decide_eq_false (by omega)
          have hdn : ¬ lo < hi := by omega
          have HEQ : Hid (sg (upP np rs (k + 1)) = T1) := Lib.hid (by rw [HST.out]; unfold runI; rw [if_pos hne, List.append_nil, sg_append, HXX.out, HT1.out])
          clear hne hle
          go_quiet (fail)
          clear r1 r2
          go_wp2_with fail
          go_roundw
          case rel => exact ⟨k + 1, by omega, by go_num, by rw [HEQ.out]; exact HDD.out _⟩
          case measure => simp [intOf]; omega
        · have hd : decide ((lo : Int) < (hi : Int)) = true := decide_eq_true (by omega)
          have hdn : lo < hi := by omega
          have HEQ : Hid (sg (upP np rs (k + 1)) = (T1 ++ [(45, false)]) ++ sg (wrI hi)) := Lib.hid (by rw [HST.out]; unfold runI; rw [if_neg hne, sg_append, sg_append, HXX.out, ← HT1.out]; simp [sg])
          clear hne hle
          go_quiet (fail)
          clear r1 r2
          have HR4 := Lib.hid (HDD.out nq)
          generalize wd.drewN nq = we at HR4 ⊢
          clear HDD HR3
          go_upto_region 16 with (at_builtin; refine append_mk rfl (.tmp 57) (.tmp 59) rfl (w.heap.size + 1) _ T1 [(45, false)] _ 1 rfl rfl rfl HR4.out.tx rfl (by omega) HR4.out.size ?_; intro v4 wf ho hA; obtain ⟨T2, hT2⟩ : ∃ T2, T1 ++ [(45, false)] = T2 := ⟨_, rfl⟩; have hR5 := HR4.out.app ho hA; have hl2 : T2.length ≤ 3001 := by { rw [← hT2, List.length_append, List.length_singleton]; omega }; rw [hT2] at hR5 HEQ; have HR5 := Lib.hid hR5; clear ho hA hR5 hT2 HR4)
          obtain ⟨r1, r2⟩ := HAT.out _ _ _ HR5.out
          go_wp2_with fail
          refine (byteOf_any wf hi hhi).mono ?_
          rintro e wg ⟨ad2, rfl, hs, hb⟩
          have hw2 := wrI_len hi
          have HS2 := Lib.hid (hs.sm (isM_wr hi hhi) (by rw [sg_len]; omega))
          generalize hnl2 : (wrI hi).length = nl2 at HS2 hw2 ⊢
          have HR6 := Lib.hid (HR5.out.below hb)
          clear r1 r2 hs hb HR5 hnl2
          go_wp2_with (at_builtin; refine append_sm rfl (.tmp 61) (.tmp 67) rfl (w.heap.size + 1) _ T2 (sg (wrI hi)) (some ad2) nl2 nl2 rfl HR6.out.tx rfl (fun h => by cases h) HS2.out (by omega) HR6.out.size ?_)
          intro v5 wh ho hA
          have HR7 := Lib.hid (HR6.out.app ho hA)
          clear ho hA HS2 HR6
          go_wp2_with fail
          go_roundw
          case rel => exact ⟨k + 1, by omega, by go_num, by rw [HEQ.out]; exact HR7.out⟩
          case measure => simp [intOf]; omega
      · obtain rfl : k = m := by omega
        have HR := Lib.hid hR
        clear hR
        have HPE : Hid (sg (upP np rs k) ++ [(93, false)] = sg (printI [q0, q1, q2, q3])) := Lib.hid (by rw [HPU.out, HM.out, sg_append]; rfl)
        obtain ⟨X, hX⟩ : ∃ X, sg (upP np rs k) = X := ⟨_, rfl⟩
        rw [hX] at HR hlen HPE
        clear hX
        go_wp2_with (at_builtin; refine append_mk rfl (.tmp 69) (.tmp 71) rfl (w.heap.size + 1) _ X [(93, false)] _ 1 rfl rfl rfl HR.out.tx rfl (by omega) HR.out.size ?_)
        intro v4 wf ho hA
        have HR4 := Lib.hid (HR.out.app ho hA)
        clear ho hA HR
        go_wp2_with fail
        go_ret
        exact ⟨_, rfl, by rw [← HPE.out]; exact HR4.out.tx.mono (by omega), HR4.out.bel⟩
end Go.Proofs.YthegepiafodpjaaDoor
