/-
  galleyref00.Sink.Take of a list.
-/
import Derived.Test.YtbdgolbejoheiaaState
import Derived.Test.YtbdgolbejoheiaaCopy
import Derived.Deep.RegionLaw
import Derived.Deep.AppendLies
import Derived.Deep.RegionHeld3
import Derived.Deep.DeepCutAuto
namespace Go.Proofs.Ytbdgolbejoheiaa
open Go.RowKit

attribute [local go_sem] Oper.semAt_some

/-- A call of a Go function at a step of a region that draws its order. -/
theorem step_callsE {P : Program} {ops : Array Oper} {o : Oper} {a : Act} {w : World} {K : Act → World → Prop} {Q : Exit → Act → World → Prop} {E : Prop} {R : Value → World → Prop} (hg : o.guard = none) (f : FuncId) (s : Array Operand) (ts : Array TypeId)
    (hop : o.op = .call { callee := .value (.func f), args := s, argTypes := ts }) (vs : Array Value) (hv' : (s.toList.map a.eval).toArray = vs) (hrun : ∀ W, (callFunc f vs).run P W = .ok (.enter f vs) W)
    (hC : Calls P f vs w fun e w' => ∃ v, e = .returned v ∧ R v w') (hK : ∀ v w', R v w' → K (a.put o.dst v) w') :
    if Region.wanted o (yielded ops a.tmps) = true then Oper.wp P o a w K Q else E := by
  have hw : Region.wanted o (yielded ops a.tmps) = true := by simp [Region.wanted, hg]
  rw [if_pos hw]
  have hv : s.map a.eval = vs := by rw [← hv', ← Array.toList_map]
  subst hv
  have h : (execOp a.eval o).run P w = .ok (.enter f (s.map a.eval)) w := by
    unfold execOp
    simp [hop, resolve, invoke, Deferred.ofValue, hrun, go_sem]
  unfold Oper.wp
  rw [h, Oper.upon_enter]
  refine hC.mono ?_
  rintro e w' ⟨v, rfl, hb⟩
  exact hK v w' hb
/-- append(list, y) at such a step. -/
theorem step_append_ls {ops : Array Oper} {o : Oper} {a : Act} {w W : World} {K : Act → World → Prop} {Q : Exit → Act → World → Prop} {E : Prop} (hgd : o.guard = none) (s x : Operand)
    (ho : o.op = .call { callee := .builtin .append, args := #[s, x], argTypes := #[22, 22] })
    (base : Nat) (v : Value) (n : Nat) (us : List Value) (y : Value) (hW : W = w.alloc (.cells #[y] 25)) (hs : a.eval s = v) (hown : w.ownsRow base 25 1 v n us) (hx : a.eval x = .slice (some ⟨w.heap.size, 0, none⟩) 1 1) (hy : y.oneCell' = true) (hsum : n + 1 ≤ 5864062014805) (hbase : base ≤ w.heap.size)
    (h : ∀ g cap w', w'.ownsRow base 25 1 (.slice (some ⟨g, 0, none⟩) (n + 1) cap) (n + 1) (us ++ [y]) → AppPost w w' base v (.slice (some ⟨g, 0, none⟩) (n + 1) cap) → K (a.put o.dst (.slice (some ⟨g, 0, none⟩) (n + 1) cap)) w') :
    if Region.wanted o (yielded ops a.tmps) = true then Oper.wp Try.prog o a W K Q else E := by
  subst hW
  obtain ⟨i0, hi, hz0, hz1, hz2⟩ := info_parts infoLs
  refine step_append_lies _ hgd s x 22 ho base 25 i0 (.slice none 0 0) 1 24 Try.underlying22 hi hz0 hz1 hz2 rfl (by decide) v n us hs (World.ownsRow.alloc hown _) ⟨w.heap.size, 0, none⟩ 1 1 [y] hx rfl (fun j u hj => ?_) (fun u hu => by simp at hu; subst hu; exact hy) (by decide) (by unfold maxLen; omega) (by omega) (by rw [World.size_alloc]; omega) _ rfl ?_
  · match j, hj with
    | 0, hj =>
      simp at hj; subst hj
      show (w.alloc (.cells #[y] 25)).cell? ⟨w.heap.size, 0, none⟩ = _
      rw [cell_of_row _ w.heap.size 0 _ _ (0, 0) (heap_alloc_new w _)]; rfl
    | j + 1, hj => simp at hj
  · intro g cap w' hown' hgrow hat _
    exact h g cap w' hown' (app_post hown (Nat.le_refl _) hbase ((Below.refl _ w).alloc (Nat.le_refl _) _) hgrow (hat.imp Eq.symm (congrArg some)))

/-- What Take answers. -/
def takeErr (s : OSt) : Int := if ((s.said.length : Nat) : Int) + 1 = s.fail then s.ferr else 0
def tookSt (s : OSt) (sv tv vc v : Value) (l : List Int) : OSt := { s with sv := sv, tv := tv, vs := s.vs ++ [vc], us := s.us ++ [v], said := s.said ++ [l] }
def TakePost (W : World) (base : Nat) (s : OSt) (v : Value) (l : List Int) (e : Ending) (W' : World) : Prop :=
  e = .returned (.int .i64 (takeErr s)) ∧ ∃ sv tv vc, OIs W' base (tookSt s sv tv vc v l) ∧ OUp W W' base s (tookSt s sv tv vc v l)

/-- A sink in the midst of a call: W0 was before. -/
structure Mid (W0 W : World) (base : Nat) (s : OSt) (kc : List Value) (sv tv : Value) (n m : Nat) (vs us : List Value) (R : List (List Int)) : Prop where
  o : At W s.bo TOut (outCells s)
  k : At W s.bs TSink kc
  og : OwnB W base s.gv s.g
  osv : W.ownsRow base 25 1 sv n vs
  otv : W.ownsRow base 25 1 tv m us
  st : Apart sv tv
  row : ∀ i, i < n → RowAt W base s.gv vs i (R[i]?.getD [])
  gB : IsB s.g
  bo_ge : base ≤ s.bo
  bs_ge : base ≤ s.bs
  keep : ∀ k, k < W0.heap.size → ¬ Mut s k → W.heap[k]? = W0.heap[k]?
  msv : ∀ k, sv.ownBlock = some k → s.sv.ownBlock = some k ∨ W0.heap.size ≤ k
  mtv : ∀ k, tv.ownBlock = some k → s.tv.ownBlock = some k ∨ W0.heap.size ≤ k
  mvs : ∀ i v k, i < n → vs[i]? = some v → v.ownBlock = some k → Blk s k ∨ W0.heap.size ≤ k
  bel : ∀ B w0, Below B w0 W0 → B ≤ base → Below B w0 W
  size : W0.heap.size ≤ W.heap.size
theorem Mid.start {W : World} {base : Nat} {s : OSt} (h : OIs W base s) : Mid W W base s (sinkCells s) s.sv s.tv s.said.length s.said.length s.vs s.us s.said :=
  ⟨h.o, h.k, h.og, h.osv, h.otv, h.st, h.row, h.gB, h.bo_ge, h.bs_ge, fun _ _ _ => rfl, fun _ e => .inl e, fun _ e => .inl e, fun i v _ hi h1 h2 => .inl (.inr ⟨i, v, hi, h1, h2⟩), fun _ _ h _ => h, Nat.le_refl _⟩
section
variable {W0 W W' : World} {base : Nat} {s : OSt} {kc : List Value} {sv tv : Value} {n m : Nat} {vs us : List Value} {R : List (List Int)}
theorem Mid.below (h : Mid W0 W base s kc sv tv n m vs us R) (hbase : base ≤ W.heap.size) (hb : Below W.heap.size W W') : Mid W0 W' base s kc sv tv n m vs us R :=
  { h with
    o := h.o.below hb
    k := h.k.below hb
    og := h.og.below hb
    osv := own_keep h.osv fun k e => hb.block k (World.ownsRow.lt h.osv k e).2
    otv := own_keep h.otv fun k e => hb.block k (World.ownsRow.lt h.otv k e).2
    row := fun i hi => by
      obtain ⟨v, h1, h2, h3⟩ := h.row i hi
      exact ⟨v, h1, h2.below hb, h3⟩
    keep := fun k hk hm => (hb.block k (Nat.lt_of_lt_of_le hk h.size)).trans (h.keep k hk hm)
    bel := fun B w0 h0 hB => (h.bel B w0 h0 hB).trans (hb.mono (Nat.le_trans hB hbase))
    size := Nat.le_trans h.size hb.size }
theorem Mid.setk (h : Mid W0 W base s kc sv tv n m vs us R) (i : Nat) (x : Value) : Mid W0 (W.setCell ⟨s.bs, i, none⟩ x) base s (kc.set i x) sv tv n m vs us R := by
  have hx : ∀ k, k ≠ s.bs → (W.setCell ⟨s.bs, i, none⟩ x).heap[k]? = W.heap[k]? := fun k hk => heap_setCell_other W ⟨s.bs, i, none⟩ k x hk
  have ne : ∀ {e : TypeId} {v : Value} {z : Nat} {xs : List Value}, W.ownsRow base e 1 v z xs → TSink ≠ e → ∀ k, v.ownBlock = some k → k ≠ s.bs := fun ho hne k hk e => by
    subst e; exact h.k.ne_own ho hne hk
  exact { h with
    o := h.o.keep (hx _ (h.o.ne_at h.k neOS))
    k := h.k.set i x
    og := own_keep h.og fun k e => hx k (ne h.og neSB k e)
    osv := own_keep h.osv fun k e => hx k (ne h.osv neSL k e)
    otv := own_keep h.otv fun k e => hx k (ne h.otv neSL k e)
    row := fun j hj => (h.row j hj).keep fun v k e1 e2 => by
      obtain ⟨v', g1, g2, -⟩ := h.row j hj
      rw [e1] at g1
      obtain rfl := Option.some.inj g1
      exact hx k (ne g2 neSB k e2)
    keep := fun k hk hm => (hx k (fun e => hm (.inr (.inl e)))).trans (h.keep k hk hm)
    bel := fun B w0 h0 hB => (h.bel B w0 h0 hB).setCell (by have := h.bs_ge; show B ≤ s.bs; omega) x
    size := by simpa using h.size }
/-- What an append to one of the two lists of lists leaves of the rest. -/
theorem Mid.rest (h : Mid W0 W base s kc sv tv n m vs us R) {v v' : Value} {z : Nat} {xs : List Value} (ho : W.ownsRow base 25 1 v z xs) (hp : AppPost W W' base v v') (hmut : ∀ k, v.ownBlock = some k → (s.sv.ownBlock = some k ∨ s.tv.ownBlock = some k) ∨ W0.heap.size ≤ k) :
    At W' s.bo TOut (outCells s) ∧ At W' s.bs TSink kc ∧ OwnB W' base s.gv s.g ∧ (∀ i, i < n → RowAt W' base s.gv vs i (R[i]?.getD [])) ∧ (∀ k, k < W0.heap.size → ¬ Mut s k → W'.heap[k]? = W0.heap[k]?) ∧ (∀ B w0, Below B w0 W0 → B ≤ base → Below B w0 W') ∧ W0.heap.size ≤ W'.heap.size := by
  have hkB : KeepT 5 W W' := KeepT.of_app ho hp neBL.symm
  refine ⟨(KeepT.of_app ho hp neOL.symm s.bo _ h.o).trans h.o, (KeepT.of_app ho hp neSL.symm s.bs _ h.k).trans h.k, hkB.own h.og, fun i hi => ?_, fun k hk hm => ?_, fun B w0 h0 hB => hp.bel B w0 (h.bel B w0 h0 hB) hB, Nat.le_trans h.size hp.size⟩
  · obtain ⟨u, h1, h2, h3⟩ := h.row i hi
    exact ⟨u, h1, hkB.own h2, h3⟩
  · refine (hp.block k (Nat.lt_of_lt_of_le hk h.size) fun e => ?_).trans (h.keep k hk hm)
    rcases hmut k e with (e | e) | e
    · exact hm (.inr (.inr (.inr (.inl e))))
    · exact hm (.inr (.inr (.inr (.inr e))))
    · omega
theorem Mid.appS (h : Mid W0 W base s kc sv tv n m vs us R) {sv' vc : Value} {l : List Int} (hR : R.length = n) (ho : W'.ownsRow base 25 1 sv' (n + 1) (vs ++ [vc])) (hp : AppPost W W' base sv sv') (hB : IsB l) (hl : l.length ≤ 140737488351232) (hap : Apart s.gv vc) (hown : OwnB W base vc l) (hnew : ∀ k, vc.ownBlock = some k → W0.heap.size ≤ k) :
    Mid W0 W' base s kc sv' tv (n + 1) m (vs ++ [vc]) us (R ++ [l]) := by
  obtain ⟨r1, r2, r3, r4, r5, r6, r7⟩ := h.rest h.osv hp (fun k e => (h.msv k e).imp .inl id)
  have hkB : KeepT 5 W W' := KeepT.of_app h.osv hp neBL.symm
  have ht := hp.other base _ _ _ tv _ h.otv h.st
  have hvl : vs.length = n := by have := h.osv.1; omega
  refine ⟨r1, r2, r3, ho, ht.1, ht.2, fun i hi => ?_, h.gB, h.bo_ge, h.bs_ge, r5, fun k e => ?_, h.mtv, fun i v k hi e1 e2 => ?_, r6, r7⟩
  · by_cases hin : i < n
    · rw [List.getElem?_append_left (by omega)]
      obtain ⟨u, h1, h2⟩ := r4 i hin
      exact ⟨u, by rw [List.getElem?_append_left (by omega)]; exact h1, h2⟩
    · obtain rfl : i = n := by omega
      rw [List.getElem?_append_right (by omega)]
      refine ⟨vc, by rw [List.getElem?_append_right (by omega), hvl, Nat.sub_self]; rfl, ?_, hap, ?_, ?_⟩
      · rw [hR, Nat.sub_self]; exact hkB.own hown
      · rw [hR, Nat.sub_self]; exact hB
      · rw [hR, Nat.sub_self]; exact hl
  · rcases hp.new k e with e | e
    · exact h.msv k e
    · have := h.size; right; omega
  · by_cases hin : i < n
    · rw [List.getElem?_append_left (by omega)] at e1
      exact h.mvs i v k hin e1 e2
    · obtain rfl : i = n := by omega
      rw [List.getElem?_append_right (by omega), hvl, Nat.sub_self] at e1
      simp only [List.getElem?_cons_zero, Option.some.injEq] at e1
      subst e1
      exact .inr (hnew k e2)
theorem Mid.appT (h : Mid W0 W base s kc sv tv n m vs us R) {tv' v : Value} (ho : W'.ownsRow base 25 1 tv' (m + 1) (us ++ [v])) (hp : AppPost W W' base tv tv') : Mid W0 W' base s kc sv tv' n (m + 1) vs (us ++ [v]) R := by
  obtain ⟨r1, r2, r3, r4, r5, r6, r7⟩ := h.rest h.otv hp (fun k e => (h.mtv k e).imp .inr id)
  have hs := hp.other base _ _ _ sv _ h.osv h.st.symm
  refine ⟨r1, r2, r3, hs.1, ho, hs.2.symm, r4, h.gB, h.bo_ge, h.bs_ge, r5, h.msv, fun k e => ?_, h.mvs, r6, r7⟩
  rcases hp.new k e with e | e
  · exact h.mtv k e
  · have := h.size; right; omega
/-- The call is done. -/
theorem Mid.done {v : Value} {l : List Int} {vc : Value} (h : Mid W0 W base s (sinkCells (tookSt s sv tv vc v l)) sv tv (s.said.length + 1) (s.said.length + 1) (s.vs ++ [vc]) (s.us ++ [v]) (s.said ++ [l])) :
    OIs W base (tookSt s sv tv vc v l) ∧ OUp W0 W base s (tookSt s sv tv vc v l) := by
  have hl : (tookSt s sv tv vc v l).said.length = s.said.length + 1 := by simp [tookSt]
  refine ⟨⟨h.o, h.k, h.og, by rw [hl]; exact h.osv, by rw [hl]; exact h.otv, h.st, fun i hi => h.row i (by rw [hl] at hi; exact hi), h.gB, h.bo_ge, h.bs_ge⟩, ⟨h.keep, ?_, ?_, h.bel, h.size⟩⟩
  · rintro k (e | e | e | e | e)
    · exact .inl (.inl e)
    · exact .inl (.inr (.inl e))
    · exact .inl (.inr (.inr (.inl e)))
    · exact (h.msv k e).imp (fun e => .inr (.inr (.inr (.inl e)))) id
    · exact (h.mtv k e).imp (fun e => .inr (.inr (.inr (.inr e)))) id
  · rintro k ((e | e | e | e | e) | ⟨i, u, hi, e1, e2⟩)
    · exact .inl (.inl (.inl e))
    · exact .inl (.inl (.inr (.inl e)))
    · exact .inl (.inl (.inr (.inr (.inl e))))
    · exact (h.msv k e).imp (fun e => .inl (.inr (.inr (.inr (.inl e))))) id
    · exact (h.mtv k e).imp (fun e => .inl (.inr (.inr (.inr (.inr e))))) id
    · exact h.mvs i u k (by rw [hl] at hi; exact hi) e1 e2
end

theorem sink_took {s : OSt} {m : Nat} (hm : s.said.length = m) (sv tv vc v : Value) (l : List Int) : sinkCells (tookSt s sv tv vc v l) = [.pointer none, .string ByteArray.empty, .int .i64 s.fail, .int .i64 s.ferr, .int .i64 ((m : Int) + 1), sv, tv] := by
  simp [sinkCells, tookSt, hm]
theorem take_post {W W' : World} {base : Nat} {s : OSt} {m : Nat} {sv tv vc v : Value} {l : List Int} {x : Int} (hm : s.said.length = m) (hx : x = if (m : Int) + 1 = s.fail then s.ferr else 0)
    (h : Mid W W' base s [.pointer none, .string ByteArray.empty, .int .i64 s.fail, .int .i64 s.ferr, .int .i64 ((m : Int) + 1), sv, tv] sv tv (m + 1) (m + 1) (s.vs ++ [vc]) (s.us ++ [v]) (s.said ++ [l])) : TakePost W base s v l (.returned (.int .i64 x)) W' := by
  rw [← sink_took hm sv tv vc v l, ← hm] at h
  refine ⟨by unfold takeErr; rw [hm, hx], sv, tv, vc, h.done⟩
theorem keepT_at {e T : TypeId} {w : World} {b i : Nat} {l : List Value} (h : At w b T l) (hne : e ≠ T) (u : Value) : KeepT e w (w.setCell ⟨b, i, none⟩ u) := fun k cur hk =>
  heap_setCell_other w ⟨b, i, none⟩ k u fun e2 => by
    simp only at e2
    subst e2
    unfold At at h
    rw [hk] at h
    simp only [Option.some.injEq, Obj.cells.injEq] at h
    exact hne h.2.1

set_option maxRecDepth 100000 in
set_option maxHeartbeats 2000000 in
theorem take_any (W : World) (base : Nat) (s : OSt) (h : OIs W base s) (hbase : base ≤ W.heap.size) (a : Option Addr) (n c : Nat) (l : List Int) (hv : OwnB W base (.slice a n c) l) (hB : IsB l) (hl : l.length ≤ 140737488351232) (hlen : s.said.length < 4294967296) :
    Calls Try.prog 15 #[.pointer (some ⟨s.bs, 0, none⟩), .slice a n c] W (TakePost W base s (.slice a n c) l) := by
  have hM := Mid.start h
  obtain ⟨m, hm⟩ : ∃ m, s.said.length = m := ⟨_, rfl⟩
  have HM := Lib.hid hm
  have hc4 : W.cell? ⟨s.bs, 4, none⟩ = some (.int .i64 ((m : Nat) : Int)) := by rw [← hm]; exact h.k.cell 4
  have hf4 := h.k.frozen 4
  have HB := Lib.hid hB
  rw [hm] at hlen hM
  have hM1 := hM.setk 4 (.int .i64 ((m : Int) + 1))
  have hv1 := (keepT_at (i := 4) h.k neSB.symm (.int .i64 ((m : Int) + 1))).own hv
  have e4 : (sinkCells s).set 4 (.int .i64 ((m : Int) + 1)) = [.pointer none, .string ByteArray.empty, .int .i64 s.fail, .int .i64 s.ferr, .int .i64 ((m : Int) + 1), s.sv, s.tv] := rfl
  rw [e4] at hM1
  have hb1 : base ≤ (W.setCell ⟨s.bs, 4, none⟩ (.int .i64 ((m : Int) + 1))).heap.size := by simpa using hbase
  clear hm hv hM h e4
  go_enter Try.func15, Try.ntmps15
  go_upto_region 2 with fail
  generalize W.setCell ⟨s.bs, 4, none⟩ (.int .i64 ((m : Int) + 1)) = W1 at hM1 hv1 hb1 ⊢
  have hc0 : W1.cell? ⟨s.bs, 0, none⟩ = some (.pointer none) := hM1.k.cell 0
  clear hc4 hf4
  go_wp2_with fail
  have hM2 := hM1.below hb1 (Below.refl W1.heap.size W1).drew
  have hv2 : OwnB W1.drew base (.slice a n c) l := hv1
  have hb2 : base ≤ W1.drew.heap.size := hb1
  obtain ⟨a5, c5, hs5⟩ := own_shape hM2.osv
  obtain ⟨a6, c6, hs6⟩ := own_shape hM2.otv
  rw [hs5, hs6] at hM2
  have HS5 := Lib.hid hs5
  have HS6 := Lib.hid hs6
  have hcp := copy_any W1.drew _ l (OwnB.sb hv2 HB.out hl)
  have HCP := Lib.hid hcp
  have hc5 : W1.cell? ⟨s.bs, 5, none⟩ = some (.slice a5 m c5) := hM2.k.cell 5
  have HM2 := Lib.hid hM2
  have HV2 := Lib.hid hv2
  clear hcp hM2 hM1 hv1 hv2 hs5 hs6 hc0
  go_upto_region 5 with fail
  go_cut [] (fun wx => ∃ sv vc, OwnB wx base (.slice a n c) l ∧ Mid W wx base s [.pointer none, .string ByteArray.empty, .int .i64 s.fail, .int .i64 s.ferr, .int .i64 ((m : Int) + 1), sv, .slice a6 m c6] sv (.slice a6 m c6) (m + 1) m (s.vs ++ [vc]) s.us (s.said ++ [l]) ∧ base ≤ wx.heap.size)
  case first =>
    have hc5d : W1.drew.cell? ⟨s.bs, 5, none⟩ = some (.slice a5 m c5) := hc5
    go_region_law (first | (refine step_callsE (R := fun v w' => OwnB w' W1.drew.heap.size v l ∧ Below W1.drew.heap.size W1.drew w') (by rfl) 19 _ _ (by rfl) _ (by rfl) (fun _ => by kernel_rfl) HCP.out ?_; rintro vc w3 ⟨oc, hb3⟩; have hM3 := HM2.out.below hb2 hb3; have hv3 := OwnB.below HV2.out hb3; have hb3s := Nat.le_trans hb2 hb3.size; obtain ⟨ac, cc, hsc⟩ := oc.shape; subst hsc; have hc53 : w3.cell? ⟨s.bs, 5, none⟩ = some (.slice a5 m c5) := hM3.k.cell 5; have hc53a : (w3.alloc (.cells #[.slice ac l.length cc] 25)).cell? ⟨s.bs, 5, none⟩ = some (.slice a5 m c5) := (hM3.k.below ((Below.refl w3.heap.size w3).alloc (Nat.le_refl _) _)).cell 5) | (refine step_append_ls (by rfl) _ _ (by rfl) base (.slice a5 m c5) m s.vs (.slice ac l.length cc) (by rfl) (by rfl) hM3.osv (by rfl) rfl (by omega) hb3s ?_; intro g cap w4 ho4 hp4; have hr4 := (hM3.rest hM3.osv hp4 (fun k e => (hM3.msv k e).imp .inl id)).2.1; have hc54 : w4.cell? ⟨s.bs, 5, none⟩ = some (.slice a5 m c5) := hr4.cell 5; have hf54 := hr4.frozen 5))
    all_goals
      have hap : Apart s.gv (.slice ac l.length cc) := fun k h1 h2 => by
        have := (World.ownsRow.lt HM2.out.og k h1).2
        have := (World.ownsRow.lt oc k h2).1
        omega
      have hnew : ∀ k, (Value.slice ac l.length cc).ownBlock = some k → W.heap.size ≤ k := fun k h2 => by
        have := (World.ownsRow.lt oc k h2).1
        have := HM2.out.size
        omega
      have hM5 := (hM3.appS HM.out ho4 hp4 HB.out hl hap (oc.mono hb2) hnew).setk 5 (.slice (some ⟨g, 0, none⟩) (m + 1) cap)
      have hv5 := (keepT_at (i := 5) hr4 neSB.symm (.slice (some ⟨g, 0, none⟩) (m + 1) cap)).own ((KeepT.of_app hM3.osv hp4 neBL.symm).own hv3)
      have hb5 : base ≤ (w4.setCell ⟨s.bs, 5, none⟩ (.slice (some ⟨g, 0, none⟩) (m + 1) cap)).heap.size := by have := hp4.size; simp; omega
      have HM5 := Lib.hid hM5
      have HV5 := Lib.hid hv5
      have HB5 := Lib.hid hb5
      clear hap hnew hM3 hv3 oc ho4 hp4 hr4 hc54 hf54 hM5 hv5 hb5 hb3 hc53 hc53a hc5d
      go_wp2_with fail
      go_meet
      case rel => exact ⟨_, _, HV5.out, HM5.out, HB5.out⟩
  case rest =>
    obtain ⟨sv, vc, hv, hM, hb⟩ := hcut
    clear hc5
    have hc6 : wc.cell? ⟨s.bs, 6, none⟩ = some (.slice a6 m c6) := hM.k.cell 6
    have hf6 := hM.k.frozen 6
    have hot := hM.otv
    have HM5 := Lib.hid hM
    have HV5 := Lib.hid hv
    clear hM hv
    go_wp2_with (at_builtin; refine append_ls rfl (.tmp 42) (.tmp 44) rfl base _ m s.us (.slice a n c) rfl hot rfl rfl (by omega) hb ?_)
    intro tv w6 ho6 hold6 hp6
    have hM6 := HM5.out.appT ho6 hp6
    obtain ⟨a7, c7, rfl⟩ := own_shape ho6
    have hc66 : w6.cell? ⟨s.bs, 6, none⟩ = some (.slice a6 m c6) := hM6.k.cell 6
    have hf66 := hM6.k.frozen 6
    have hM7 := hM6.setk 6 (.slice a7 (m + 1) c7)
    have hb7 : base ≤ (w6.setCell ⟨s.bs, 6, none⟩ (.slice a7 (m + 1) c7)).heap.size := by have := hp6.size; simp; omega
    clear hM6 ho6 hold6 hp6 hc6 hf6 hot
    go_upto_region 6 with fail
    generalize w6.setCell ⟨s.bs, 6, none⟩ (.slice a7 (m + 1) c7) = w7 at hM7 hb7 ⊢
    have hc74 : w7.cell? ⟨s.bs, 4, none⟩ = some (.int .i64 ((m : Int) + 1)) := hM7.k.cell 4
    have hc72 : w7.cell? ⟨s.bs, 2, none⟩ = some (.int .i64 s.fail) := hM7.k.cell 2
    have HQ := Lib.hid (fun q => hM7.below hb7 (below_drewN (Below.refl _ _) q))
    clear hc66 hf66 hM7
    by_cases hf : (m : Int) + 1 = s.fail
    · have hfb : ((m : Int) + 1 == s.fail) = true := by simpa using hf
      have HF := Lib.hid hf
      clear hf
      go_wp2_with fail
      go_quiet (fail)
      rename_i nq
      have HM8 := Lib.hid (HQ.out nq)
      have hc83 : (w7.drewN nq).cell? ⟨s.bs, 3, none⟩ = some (.int .i64 s.ferr) := HM8.out.k.cell 3
      clear hc74 hc72
      generalize w7.drewN nq = w8 at HM8 hc83 ⊢
      go_wp2_with fail
      go_ret
      exact take_post HM.out (by rw [if_pos HF.out]) HM8.out
    · have hfb : ((m : Int) + 1 == s.fail) = false := by simpa using hf
      have HF := Lib.hid hf
      clear hf
      go_wp2_with fail
      go_quiet (fail)
      rename_i nq
      have HM8 := Lib.hid (HQ.out nq)
      clear hc74 hc72
      generalize w7.drewN nq = w8 at HM8 ⊢
      go_wp2_with fail
      go_ret
      exact take_post HM.out (by rw [if_neg HF.out]) HM8.out
end Go.Proofs.Ytbdgolbejoheiaa
