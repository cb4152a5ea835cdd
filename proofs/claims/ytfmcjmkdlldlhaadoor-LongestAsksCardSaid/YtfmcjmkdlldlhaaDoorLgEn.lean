/-
  longest.Search.Ends: the walk.
-/
import Derived.Test.YtfmcjmkdlldlhaaDoorLgE
import Derived.Test.YtfmcjmkdlldlhaaDoorLgQ
import Derived.Deep.LoopGhost
namespace Go.Proofs.YtfmcjmkdlldlhaaDoor
open Go.RowKit

attribute [local go_sem] Oper.semAt_some

set_option maxRecDepth 100000 in
set_option maxHeartbeats 4000000 in
theorem ends_yes (W : World) (base : Nat) (M : List Ins) (s : SO) (h : Sob W base M s) (hG : Good M) (hM : M.length ≤ 65540) (hC : ∀ x ∈ M, IsC x.set ∧ (x.op = 4 ∨ x.op = 5 → 0 ≤ x.x) ∧ (x.op = 5 → 0 ≤ x.y)) (tx : List Int) (a : Option Addr) (n cp : Nat) (ht : TxR W a n cp tx) (f : Nat) (hf : f ≤ tx.length) (hn : tx.length ≤ 4194304) :
    Calls Tryd.prog 13 #[.pointer (some ⟨s.g, 0, none⟩), .slice a n cp, .int .i64 (f : Int)] W (EndsPost W base M tx f s) := by
  obtain rfl : tx.length = n := ht.1.len.1
  have HS := Lib.hid h
  have HT := Lib.hid ht
  have HG := Lib.hid hG
  have HC := Lib.hid hC
  have hrd := ready_yes W base M s h hM hG.pos tx.length f hf
  have HRD := Lib.hid hrd
  clear h ht hG hC hrd
  go_enter Tryd.func13, Tryd.ntmps13
  go_wp2_with fail
  refine HRD.out.mono ?_
  rintro e w1 ⟨rfl, s1, e1, e2, e3, e4, e5, hst, hs1, hu1⟩
  have HS1 := Lib.hid hs1
  have HU1 := Lib.hid hu1
  have HE := Lib.hid (And.intro e1 (And.intro e2 (And.intro e3 (And.intro e4 (And.intro e5 hst)))))
  have HT1 := Lib.hid (HT.out.keep (.of_up hu1 HS.out.nb))
  have hg1 : s1.g = s.g := e1
  clear hs1 hu1 e2 e3 e4 e5 hst e1 HRD
  -- the row of ends
  obtain ⟨el, exs, hen⟩ := HS1.out.en
  obtain ⟨ea, ec, hev⟩ := own_shape hen
  have c8 : w1.cell? ⟨s.g, 8, none⟩ = some (.slice ea el ec) := by
    rw [← hg1]
    exact (HS1.out.mid.o.cell 8).trans (congrArg some hev)
  have HEN := Lib.hid (And.intro hen hev)
  clear hen hev
  have hwn : IntKind.i64.wrap ((tx.length : Int) + 1) = (tx.length : Int) + 1 := IntWalk.i64_in _ (by omega)
  go_upto_if 24 with fail
  rw [← hg1] at c8 ⊢
  clear hg1
  obtain ⟨N, hN⟩ : ∃ N, tx.length = N := ⟨_, rfl⟩
  have HN := Lib.hid hN
  rw [hN] at hn hwn hf HT HT1 ⊢
  clear hN
  go_cut [] (fun wx => ∃ eb el ec s2, N + 1 ≤ ec ∧ s2 = { s1 with ev := .slice (some ⟨eb, 0, none⟩) el ec } ∧ Sob wx base M s2 ∧ Up W wx base (SBlk s) (SBlk s2) ∧ TxR wx a N cp tx)
  case first =>
    by_cases hl : ec < N + 1
    · have hlb : decide ((ec : Int) < (N : Int) + 1) = true := decide_eq_true (by omega)
      rw [hlb]
      have hmk := madeBo w1 (N + 1) (by omega)
      have hbn := (Below.refl w1.heap.size w1).alloc (Nat.le_refl _) (.cells (List.replicate (N + 1) (.bool false)).toArray 4)
      have ho := own_new w1 base (N + 1) 4 (List.replicate (N + 1) (.bool false)) HS1.out.size (by unfold maxLen; omega) (by simp)
      have HA := Lib.hid (HS1.out.below hbn)
      have HAU := Lib.hid (HU1.out.trans (Up.below _ hbn HS1.out.size))
      have HTA := Lib.hid (HT1.out.keep (.of_below hbn))
      have HO := Lib.hid ho
      have HSZ := Lib.hid HU1.out.size
      generalize w1.alloc (.cells (List.replicate (N + 1) (.bool false)).toArray 4) = w3 at hmk HA HAU HO HTA
      generalize w1.heap.size = h2 at hmk HO HSZ
      clear hbn ho
      have c8' : w3.cell? ⟨s1.g, 8, none⟩ = some s1.ev := HA.out.mid.o.cell 8
      have f8' : w3.frozen? ⟨s1.g, 8, none⟩ = false := HA.out.mid.o.frozen 8
      rw [show ((N + 1 : Nat) : Int) = (N : Int) + 1 by omega] at hmk
      have hm := HA.out.mid.setf 8 (.slice (some ⟨h2, 0, none⟩) (N + 1) (N + 1))
      have hu : Up w3 (w3.setCell ⟨s1.g, 8, none⟩ (.slice (some ⟨h2, 0, none⟩) (N + 1) (N + 1))) base (SBlk s1) (SBlk s1) := Up.setf _ (.inl (.inl rfl)) HA.out.mid.ge
      have hs : Sob (w3.setCell ⟨s1.g, 8, none⟩ (.slice (some ⟨h2, 0, none⟩) (N + 1) (N + 1))) base M { s1 with ev := .slice (some ⟨h2, 0, none⟩) (N + 1) (N + 1) } :=
        ⟨⟨hm.o, hm.m, hm.st, hm.nw, hm.nx, hm.sk, hm.ap, hm.ge⟩, HA.out.stk, HA.out.sr, N + 1, _, own_set_at HA.out.mid.o HO.out neBS.symm⟩
      have ht3 := HTA.out.keep (.of_up hu HA.out.nb)
      have HS3 := Lib.hid hs
      have HU3 := Lib.hid (HAU.out.trans hu)
      have HT3 := Lib.hid ht3
      clear hm hu hs ht3 hl
      go_wp2_with fail
      go_meet
      case rel =>
        refine ⟨h2, N + 1, N + 1, _, Nat.le_refl _, rfl, HS3.out, ⟨HU3.out.keep, fun k hk => ?_, HU3.out.bel, HU3.out.size⟩, HT3.out⟩
        rcases hk with e | e
        · exact HU3.out.new k (.inl e)
        · have : h2 = k := by simpa [Value.ownBlock] using e
          have := HSZ.out
          right; omega
    · have hlb : decide ((ec : Int) < (N : Int) + 1) = false := decide_eq_false (by omega)
      rw [hlb]
      have HL := Lib.hid hl
      clear hl
      go_wp2_with fail
      go_meet
      case rel =>
        have hle : N + 1 ≤ ec := by have := HL.out; omega
        have hen := HEN.out.1
        rw [HEN.out.2] at hen
        cases ea with
        | none =>
          rcases hen.2 with ⟨h1, _⟩ | ⟨g, cap, cur, h1, _⟩
          · simp only [Value.slice.injEq] at h1; omega
          · simp at h1
        | some ad =>
          obtain ⟨g, c, h1⟩ : ∃ g c, Value.slice (some ad) el ec = .slice (some ⟨g, 0, none⟩) el c := by
            rcases hen.2 with ⟨h1, _⟩ | ⟨g, cap, cur, h1, _⟩
            · simp at h1
            · exact ⟨g, cap, h1⟩
          have h2 := HEN.out.2
          rw [h1] at h2
          simp only [Value.slice.injEq, Option.some.injEq] at h1
          obtain ⟨_, _, rfl⟩ := h1
          have es : s1 = { s1 with ev := .slice (some ⟨g, 0, none⟩) el ec } := by rw [← h2]
          exact ⟨g, el, ec, s1, hle, es, HS1.out, HU1.out, HT1.out⟩
  case rest =>
  obtain ⟨be, el2, ec2, s2, hec, hs2, hs, hu, ht⟩ := hcut
  have HS2 := Lib.hid hs
  have HU2 := Lib.hid hu
  have HT2 := Lib.hid ht
  have HE2 := Lib.hid hs2
  have hg2 : s1.g = s2.g := by rw [hs2]
  rw [hg2]
  clear hg2
  clear hs hu ht hs2 c8 HS1 HU1 HT1 HEN
  generalize wc = w2 at HS2 HU2 HT2 ⊢
  have hev2 : s2.ev = .slice (some ⟨be, 0, none⟩) el2 ec2 := by rw [HE2.out]
  have c8 : w2.cell? ⟨s2.g, 8, none⟩ = some (.slice (some ⟨be, 0, none⟩) el2 ec2) := (HS2.out.mid.o.cell 8).trans (congrArg some hev2)
  obtain ⟨n2, xs2, hen2⟩ := HS2.out.en
  rw [hev2] at hen2
  obtain rfl := own_len hen2
  have hel2 := own_cap hen2
  obtain ⟨ys, hys⟩ := own_more hen2 hec
  have hwn1 : IntKind.i64.wrap (((N : Int) + 1)) = (N : Int) + 1 := hwn
  have hecI : (N : Int) + 1 ≤ (ec2 : Int) := by omega
  -- the variable that holds the row
  have hb7 := (Below.refl w2.heap.size w2).alloc (Nat.le_refl _) (.cells #[.slice (some ⟨be, 0, none⟩) (N + 1) ec2] 71)
  have hA7 : At (w2.alloc (.cells #[.slice (some ⟨be, 0, none⟩) (N + 1) ec2] 71)) w2.heap.size 71 [.slice (some ⟨be, 0, none⟩) (N + 1) ec2] := At.new w2 _ _
  have HA7 := Lib.hid hA7
  have HS3 := Lib.hid (HS2.out.below hb7)
  have HU3 := Lib.hid (HU2.out.trans (Up.below _ hb7 HS2.out.size))
  have HT3 := Lib.hid (HT2.out.keep (.of_below hb7))
  have HY3 := Lib.hid (World.ownsRow.alloc hys (.cells #[.slice (some ⟨be, 0, none⟩) (N + 1) ec2] 71))
  have HV2 := Lib.hid hev2
  have HB7 := Lib.hid (And.intro HS2.out.size (And.intro HU2.out.size (Nat.le_refl w2.heap.size)))
  clear hb7 hA7 hys hen2 hev2 HS2 HU2 HT2
  go_upto_region 6 with fail
  generalize w2.alloc (.cells #[.slice (some ⟨be, 0, none⟩) (N + 1) ec2] 71) = w3 at HA7 HS3 HU3 HT3 HY3 ⊢
  generalize w2.heap.size = b7 at HA7 HB7 ⊢
  have c7 : w3.cell? ⟨b7, 0, none⟩ = some (.slice (some ⟨be, 0, none⟩) (N + 1) ec2) := HA7.out.cell 0
  have hcl := fun ty => clearBo HY3.out (Nat.succ_pos N) ty
  obtain ⟨ho4, hu4⟩ := own_clear HY3.out (List.replicate (N + 1) (.bool false)) (by simp)
  have hbeb : s2.ev.ownBlock = some be := by rw [HV2.out]; rfl
  have hfar := HS3.out.ends_far be hbeb
  have hS4 : Mid (w3.setCells be 0 (List.replicate (N + 1) (.bool false))) base M s2 (soCells s2) := HS3.out.mid.keep fun k hk hc => hu4.keep k hk fun e => hfar (e ▸ hc)
  have hA4 : At (w3.setCells be 0 (List.replicate (N + 1) (.bool false))) b7 71 [.slice (some ⟨be, 0, none⟩) (N + 1) ec2] := HA7.out.keep (hu4.keep b7 HA7.out.lt fun e => HA7.out.ne_own HY3.out (by decide) (by rw [e]; rfl))
  have hU4 : Up W (w3.setCells be 0 (List.replicate (N + 1) (.bool false))) base (SBlk s) (SBlk s2) := HU3.out.trans (hu4.more (fun k hk => by rw [hk]; exact .inr hbeb) fun k hk => .inr hk)
  have hT4 : TxR (w3.setCells be 0 (List.replicate (N + 1) (.bool false))) a N cp tx := HT3.out.keep (.of_up hu4 fun k hk => by rw [hk]; exact own_nb HY3.out (by decide) rfl)
  have HS4 := Lib.hid hS4
  have HA4 := Lib.hid hA4
  have HU4 := Lib.hid hU4
  have HT4 := Lib.hid hT4
  have HO4 := Lib.hid ho4
  have HF4 := Lib.hid (And.intro hbeb hfar)
  clear ho4 hu4 hS4 hA4 hU4 hT4 hbeb hfar
  generalize w3.setCells be 0 (List.replicate (N + 1) (.bool false)) = w4 at hcl HS4 HA4 HU4 HT4 HO4
  go_upto_region 7 with fail
  clear hcl c7 c8
  have hnow : s2.now = [] := by rw [HE2.out]; exact HE.out.2.2.2.1
  obtain ⟨na, nc, hnv⟩ := own_shape HS4.out.nw
  rw [hnow] at hnv
  have hown : w4.ownsRow base TT 2 (.slice na 0 nc) 0 (cellsT []) := by
    have h := HS4.out.nw
    rw [hnow, hnv] at h
    exact h
  have c5 : w4.cell? ⟨s2.g, 5, none⟩ = some (.slice na 0 nc) := (HS4.out.o.cell 5).trans (congrArg some hnv)
  have hs4 : base ≤ w4.heap.size := Nat.le_trans HS4.out.ge (Nat.le_of_lt HS4.out.o.lt)
  have HNW := Lib.hid (And.intro hnow hnv)
  have HOW := Lib.hid hown
  clear hnow hnv hown
  go_wp2_with (at_builtin; refine wpList_appT (w := w4) rfl (.tmp 45) (.tmp 48) rfl base _ 0 [] (0, f) _ rfl rfl rfl HOW.out rfl (by decide) hs4 ?_)
  intro gn cap w5 ho5 hp5
  have hA5 := HS4.out.appN (v' := .slice (some ⟨gn, 0, none⟩) (0 + 1) cap) (t := (0, f)) (by rw [HNW.out.1]; exact ho5) (by rw [HNW.out.2]; exact hp5)
  have hm6 := hA5.1.setf 5 (.slice (some ⟨gn, 0, none⟩) (0 + 1) cap)
  have hU6 : Up w5 (w5.setCell ⟨s2.g, 5, none⟩ (.slice (some ⟨gn, 0, none⟩) (0 + 1) cap)) base (CBlk { s2 with nv := .slice (some ⟨gn, 0, none⟩) (0 + 1) cap, now := s2.now ++ [(0, f)] }) (CBlk { s2 with nv := .slice (some ⟨gn, 0, none⟩) (0 + 1) cap, now := s2.now ++ [(0, f)] }) := Up.setf _ (.inl rfl) hA5.1.ge
  have hU46 := hA5.2.trans hU6
  have c55 : w5.cell? ⟨s2.g, 5, none⟩ = some (.slice na 0 nc) := (hA5.1.o.cell 5).trans (congrArg some HNW.out.2)
  have f55 : w5.frozen? ⟨s2.g, 5, none⟩ = false := hA5.1.o.frozen 5
  have HM6 := Lib.hid hm6
  have HU46 := Lib.hid hU46
  clear ho5 hp5 hA5 hm6 hU6 hU46 c5
  go_upto_region 8 with fail
  clear c55 f55
  generalize w5.setCell ⟨s2.g, 5, none⟩ (.slice (some ⟨gn, 0, none⟩) (0 + 1) cap) = w6 at HM6 HU46 ⊢
  obtain ⟨s3, hs3⟩ : ∃ s3 : SO, s3 = { s2 with nv := .slice (some ⟨gn, 0, none⟩) (0 + 1) cap, now := s2.now ++ [(0, f)] } := ⟨_, rfl⟩
  rw [← hs3] at HM6 HU46
  have hM6 : Mid w6 base M s3 (soCells s3) := by
    have h := HM6.out
    rw [hs3] at h ⊢
    exact h
  have hb8 := (Below.refl w6.heap.size w6).alloc (Nat.le_refl _) (.cells #[.int .i64 (f : Int)] 3)
  have hA8 : At (w6.alloc (.cells #[.int .i64 (f : Int)] 3)) w6.heap.size 3 [.int .i64 (f : Int)] := At.new w6 _ _
  have hs6 : base ≤ w6.heap.size := Nat.le_trans hM6.ge (Nat.le_of_lt hM6.o.lt)
  have hA7 : At w6 b7 71 [.slice (some ⟨be, 0, none⟩) (N + 1) ec2] := HA4.out.keep (HU46.out.keep b7 HA4.out.lt (cblk_not HS4.out HA4.out (by decide) (by decide) (by decide) (by decide) (by decide)))
  have hO6 : w6.ownsRow base 4 1 (.slice (some ⟨be, 0, none⟩) (N + 1) ec2) (N + 1) (List.replicate (N + 1) (.bool false)) := own_blk HO4.out fun k hk => HU46.out.keep k (World.ownsRow.lt HO4.out k hk).2 fun hc => HF4.out.2 (by simp only [Value.ownBlock, Option.some.injEq] at hk; rw [hk]; exact hc)
  have hfar3 : ¬ CBlk s3 be := fun hc => by
    rcases HU46.out.new be hc with e | e
    · exact HF4.out.2 e
    · have := (World.ownsRow.lt HO4.out be rfl).2; omega
  have hgf : s3.g = s2.g := by rw [hs3]
  have hE0 : EnR W (w6.alloc (.cells #[.int .i64 (f : Int)] 3)) base M tx f s f s3 (List.replicate (N + 1) false) b7 w6.heap.size be ec2 a N cp := by
    have e2 := HE2.out
    have hnow : s3.now = [(0, f)] := by rw [hs3]; show s2.now ++ _ = _; rw [HNW.out.1]; rfl
    have hst : s3.steps = 0 := by rw [hs3, e2]; exact HE.out.2.2.2.2.1
    have hle : W.heap.size ≤ w6.heap.size := Nat.le_trans HU4.out.size HU46.out.size
    have hrow : (w6.alloc (.cells #[.int .i64 (f : Int)] 3)).ownsRow base 4 1 (.slice (some ⟨be, 0, none⟩) (N + 1) ec2) (N + 1) (List.replicate (N + 1) (.bool false)) := World.ownsRow.alloc hO6 _
    refine ⟨hM6.below hb8, by rw [hs3]; exact HS3.out.stk, by rw [hs3, e2]; exact HE.out.2.2.2.2.2, by rw [hs3, e2]; exact ⟨HE.out.1, HE.out.2.1⟩, ⟨_, by rw [hs3]; exact HV2.out⟩, ?_, ⟨by rw [HN.out]; exact hA7.below hb8, hA8, ?_, ?_, hs6⟩, ?_, ?_, ?_, ?_, ?_, ?_, ?_, ?_, ?_⟩
    · obtain ⟨ys2, hy2⟩ := own_more hrow hel2
      refine ⟨el2, ys2, ?_⟩
      rw [show s3.ev = s2.ev by rw [hs3], HV2.out]
      exact hy2
    · rw [HN.out, if_pos rfl, cellsB, List.map_replicate]
      exact hrow
    · exact Nat.le_trans HB7.out.1 HB7.out.2.2
    · rintro k (rfl | rfl | rfl)
      · exact cblk_not hM6 hA7 (by decide) (by decide) (by decide) (by decide) (by decide)
      · exact fun hc => Nat.lt_irrefl _ (hM6.lt _ hc).1
      · exact hfar3
    · exact ⟨Nat.le_trans HB7.out.2.1 HB7.out.2.2, hle⟩
    · intro t
      rw [hnow]
      constructor
      · intro h
        simp only [List.mem_singleton] at h
        subst h
        exact ⟨rfl, .inl ⟨rfl, rfl⟩⟩
      · rintro ⟨h1, ⟨h2, _⟩ | ⟨i', p', h2, _, h4, _⟩⟩
        · simp only [List.mem_singleton]
          exact Prod.ext h2 h1
        · have := run_le M tx h4
          omega
    · rw [hnow]; simp
    · rw [hst]; omega
    · rw [HN.out]; simp
    · rw [hnow, hst, ← HN.out]; rfl
    · refine ⟨fun k hk hn => (hb8.block k (by omega)).trans ?_, fun k hk => ?_, fun B w0 h0 hB => ?_, Nat.le_trans hle hb8.size⟩
      · refine (HU46.out.keep k (Nat.lt_of_lt_of_le hk HU4.out.size) fun hc => ?_).trans (HU4.out.keep k hk hn)
        rcases HU4.out.new k (.inl hc) with e | e
        · exact hn e
        · omega
      · rcases hk with hc | rfl | rfl | rfl
        · rcases HU46.out.new k hc with e | e
          · exact HU4.out.new k (.inl e)
          · right; exact Nat.le_trans HU4.out.size e
        · right; exact Nat.le_trans HB7.out.2.1 HB7.out.2.2
        · exact .inr hle
        · exact HU4.out.new k (.inr HF4.out.1)
      · exact (HU46.out.bel B w0 (HU4.out.bel B w0 h0 hB) hB).trans (hb8.mono (by omega))
    · exact (HT4.out.keep (.of_up HU46.out HS4.out.nb)).keep (.of_below hb8)
  have HE0 := Lib.hid hE0
  clear hM6 hb8 hA8 hA7 hO6 hfar3 hE0 hs6 HM6 HU46 HS4 HA4 HU4 HT4 HO4 HOW HNW HS3 HU3 HT3 HY3 HA7
  rw [← hgf]
  clear hgf
  have HH := Lib.hid hf
  clear hwn hwn1 hecI hel2 hec hf HF4 HB7 HE HE2 HV2 HT hs3
  have hsg : s3.g = s.g := HE0.out.same.1
  rw [hsg]
  clear hsg
  go_wp2_with fail
  generalize w6.alloc (.cells #[.int .i64 (f : Int)] 3) = w7 at HE0 ⊢
  generalize w6.heap.size = b80 at HE0 ⊢
  go_loopg [8] (N + 2 - f) (fun gk v8 wr => ∃ p sE B b8, v8 = .pointer (some ⟨b8, 0, none⟩) ∧ f ≤ p ∧ p ≤ N + 1 ∧ gk = N + 2 - p ∧ EnR W wr base M tx f s p sE B b7 b8 be ec2 a N cp)
  case atStart => exact ⟨f, s3, _, b80, rfl, Nat.le_refl _, by have := HH.out; omega, rfl, HE0.out⟩
  case round =>
    clear HE0
    obtain ⟨p, sE, B, b8, rfl, hfp, hpN, hgk, hE⟩ := hrel
    have HE := Lib.hid hE
    have hg : sE.g = s.g := hE.same.1
    obtain ⟨na, nc, hnv⟩ := own_shape hE.mid.nw
    have c5 : wr.cell? ⟨s.g, 5, none⟩ = some (.slice na sE.now.length nc) := by
      rw [← hg]
      exact (hE.mid.o.cell 5).trans (congrArg some hnv)
    have hwr : base ≤ wr.heap.size := Nat.le_trans hE.mid.ge (Nat.le_of_lt hE.mid.o.lt)
    have HGK := Lib.hid (And.intro hgk (And.intro hg hnv))
    clear hE hgk hg hnv
    obtain ⟨L, hL⟩ : ∃ L, sE.now.length = L := ⟨_, rfl⟩
    rw [hL] at c5
    have HL := Lib.hid hL
    clear hL
    by_cases h0 : L = 0
    · subst h0
      have hnow : sE.now = [] := List.eq_nil_of_length_eq_zero HL.out
      have hres := HE.out.run_end hnow
      have HRS := Lib.hid hres
      clear hnow hres
      have c7 : wr.cell? ⟨b7, 0, none⟩ = some (.slice (some ⟨be, 0, none⟩) (N + 1) ec2) := by
        have := HE.out.ej.1.cell 0
        rw [HN.out] at this
        exact this
      have hrow : wr.ownsRow base 4 1 (.slice (some ⟨be, 0, none⟩) (N + 1) ec2) (N + 1) (cellsB B) := by
        have := HE.out.ej.2.2.1
        rw [HN.out, if_pos rfl] at this
        exact this
      have hmk := madeBo wr (N + 1) (by omega)
      rw [show ((N + 1 : Nat) : Int) = (N : Int) + 1 by omega] at hmk
      have hbn := (Below.refl wr.heap.size wr).alloc (Nat.le_refl _) (.cells (List.replicate (N + 1) (.bool false)).toArray 4)
      have hat : (wr.alloc (.cells (List.replicate (N + 1) (.bool false)).toArray 4)).heap[wr.heap.size]? = some (.cells (List.replicate (N + 1) (.bool false)).toArray 4 (0, 0)) := heap_alloc_new wr _
      have hrow1 : (wr.alloc (.cells (List.replicate (N + 1) (.bool false)).toArray 4)).ownsRow base 4 1 (.slice (some ⟨be, 0, none⟩) (N + 1) ec2) (N + 1) (cellsB B) := World.ownsRow.alloc hrow _
      have c71 : (wr.alloc (.cells (List.replicate (N + 1) (.bool false)).toArray 4)).cell? ⟨b7, 0, none⟩ = some (.slice (some ⟨be, 0, none⟩) (N + 1) ec2) := Lib.cell?_alloc_some _ c7
      have HBN := Lib.hid hbn
      have HAT := Lib.hid hat
      have HR1 := Lib.hid hrow1
      have hlen : (cellsB B).length = N + 1 := by have := hrow.1; omega
      have HLN := Lib.hid hlen
      clear hbn hat hrow1 hrow hlen
      generalize hw1 : wr.alloc (.cells (List.replicate (N + 1) (.bool false)).toArray 4) = w1 at hmk HBN HAT HR1 c71
      generalize hh1 : wr.heap.size = h1 at hmk HAT
      have HH1 := Lib.hid (And.intro hw1 hh1)
      clear hw1 hh1
      have hcn : (cellsB B).length = Nat.min (N + 1) (N + 1) := by rw [HLN.out]; exact (Nat.min_self _).symm
      have hcs : ∀ j v, (cellsB B)[j]? = some v → w1.cell? ((⟨be, 0, none⟩ : Addr).add j) = some v := by
        intro j v hj
        have hjl := (List.getElem?_eq_some_iff.1 hj).1
        rw [show (⟨be, 0, none⟩ : Addr).add j = ⟨be, j, none⟩ by simp [Addr.add]; exact fun h => h.symm, (own_cell HR1.out j hjl).1]
        exact hj
      have hcf : 0 + (cellsB B).length ≤ (List.replicate (N + 1) (Value.bool false)).toArray.size := by rw [HLN.out]; simp
      have hc1 : ∀ v ∈ cellsB B, v.oneCell' = true := by
        intro v hv
        obtain ⟨_, _, rfl⟩ := List.mem_map.1 hv
        rfl
      obtain ⟨wf, hcopy, hfin, hb2⟩ : ∃ wf, (∀ ty, (Builtin.copy_ #[71, 71] ty #[.slice (some ⟨h1, 0, none⟩) (N + 1) (N + 1), .slice (some ⟨be, 0, none⟩) (N + 1) ec2]).run Tryd.prog w1 = .ok (goInt (N + 1)) wf) ∧ At wf h1 4 (cellsB B) ∧ Below h1 wr wf := by
        refine ⟨_, fun ty => by have := run_copy_row (P := Tryd.prog) w1 71 71 ty 4 h1 0 (N + 1) (N + 1) ⟨be, 0, none⟩ (N + 1) ec2 (List.replicate (N + 1) (.bool false)).toArray 4 (cellsB B) Tryd.underlying71 (by kernel_rfl) HAT.out hcn hcs hcf hc1; rw [HLN.out] at this; exact this, ?_, ?_⟩
        · unfold At
          rw [setRow_heap w1 h1 _ _ 4 _ HAT.out]
          simp
        · exact (HBN.out.mono (by rw [HH1.out.2]; exact Nat.le_refl _)).trans ⟨rfl, rfl, rfl, by simp [World.setRow], fun k hk => _root_.Go.setRow_other w1 h1 k _ (by omega)⟩
      have HFN := Lib.hid hfin
      have HB2 := Lib.hid hb2
      clear hfin hb2 hcn hcs hcf hc1
      go_wp2_with fail
      go_ret
      have hsb : Sob wr base M sE := ⟨HE.out.mid, HE.out.stk, HE.out.st.sr, by obtain ⟨el, xs, ho⟩ := HE.out.en; exact ⟨el, xs, ho⟩⟩
      refine ⟨wr.heap.size, sE, by rw [HN.out, HH1.out.2]; rfl, HE.out.up.size, ?_, fun hc => Nat.lt_irrefl _ (hsb.lt _ hc).1, HE.out.same.1, HE.out.same.2, by rw [HRS.out], ?_, ?_⟩
      · rw [HRS.out, HH1.out.2]
        exact HFN.out
      · exact hsb.below (by rw [HH1.out.2]; exact HB2.out)
      · have hu := HE.out.up.trans (Up.below _ (by rw [HH1.out.2]; exact HB2.out) hwr)
        refine ⟨hu.keep, fun k hk => hu.new k ?_, hu.bel, hu.size⟩
        rcases hk with e | e
        · exact .inl e
        · obtain ⟨el, hev⟩ := HE.out.ev
          rw [hev] at e
          simp only [Value.ownBlock, Option.some.injEq] at e
          exact .inr (.inr (.inr e.symm))
    · have hne : sE.now ≠ [] := fun e => h0 (by rw [← HL.out, e]; rfl)
      have hLI : (0 : Int) < (L : Int) := by omega
      have hpn : p ≤ tx.length := by
        obtain ⟨t, l, e⟩ : ∃ t l, sE.now = t :: l := by
          cases h : sE.now with
          | nil => exact absurd h hne
          | cons t l => exact ⟨t, l, rfl⟩
        have := ((HE.out.thr t).1 (by rw [e]; exact List.mem_cons_self)).2.run M tx
        exact run_in M tx this (by rw [HN.out]; exact HH.out)
      have hth := HE.out.threads HG.out
      have hspb : (p - f) * 65540 + 65540 ≤ 1099511627776 := by
        have h1 : (p - f) ≤ 4194304 := by have := HN.out; omega
        exact Nat.le_trans (Nat.add_le_add_right (Nat.mul_le_mul_right 65540 h1) 65540) (by decide)
      have D := ends_dn base b7 b8 be (tx.length + 1) ec2 p B (by omega)
      have hPL := place_any' wr base M tx p sE a N cp D HG.out hM HC.out HE.out.mid HE.out.st HE.out.txr hpn hth.1 hth.2 (by have := HE.out.len; omega) HE.out.stk HE.out.ej HE.out.far (by have := HE.out.sp; omega)
      rw [HGK.out.2.1] at hPL
      have HPL := Lib.hid hPL
      have HD := Lib.hid D
      have c8 : wr.cell? ⟨b8, 0, none⟩ = some (.int .i64 (p : Int)) := HE.out.ej.2.1.cell 0
      have HP := Lib.hid (And.intro hne (And.intro hpn hth))
      clear hPL D hne hpn hth hspb
      go_upto_region 12 with fail
      refine HPL.out.mono ?_
      rintro e w' ⟨rfl, s', g1, g2, g3, g4, g5, g6, g7, g8, g9⟩
      have HS' := Lib.hid (And.intro g1 (And.intro g2 (And.intro g3 (And.intro g4 (And.intro g5 (And.intro g6 g7))))))
      have HMS := Lib.hid g8
      have HFN := Lib.hid g9
      clear g1 g2 g3 g4 g5 g6 g7 g8 g9 c8 c5
      have c8 : w'.cell? ⟨b8, 0, none⟩ = some (.int .i64 (p : Int)) := HFN.out.jd.2.1.cell 0
      have hwp : IntKind.i64.wrap ((p : Int) + 1) = (p : Int) + 1 := IntWalk.i64_in _ (by omega)
      go_wp2_with fail
      have hb := (Below.refl w'.heap.size w').alloc (Nat.le_refl _) (.cells #[.int .i64 ((p : Int) + 1)] 3)
      have hA8 : At (w'.alloc (.cells #[.int .i64 ((p : Int) + 1)] 3)) w'.heap.size 3 [.int .i64 ((p + 1 : Nat) : Int)] := At.new w' _ _
      have hon := one_next M tx HG.out HE.out.thr hfp sE.steps
      have hPc := place_any M tx p HG.out sE.now sE.steps HP.out.2.2.1 HP.out.2.2.2
      have hnew : EnR W (w'.alloc (.cells #[.int .i64 ((p : Int) + 1)] 3)) base M tx f s (p + 1) s' (if (placeF M tx p sE.now sE.steps).dn = [] then B else B.set p true) b7 w'.heap.size be ec2 a N cp := by
        obtain ⟨g1, g2, g3, g4, g5, g6, g7⟩ := HS'.out
        obtain ⟨k1, k2, k3, k4, k5⟩ := HFN.out.jd
        obtain ⟨el, hev⟩ := HE.out.ev
        obtain ⟨el2', xs', hown⟩ := HE.out.en
        rw [hev] at hown
        obtain rfl := own_len hown
        have hle := own_cap hown
        have hs' : base ≤ w'.heap.size := Nat.le_trans HMS.out.ge (Nat.le_of_lt HMS.out.o.lt)
        have hu := HE.out.up.trans HFN.out.up
        refine ⟨HMS.out.below hb, g6, g7, ⟨g1.trans HE.out.same.1, g2.trans HE.out.same.2⟩, ⟨_, g3.trans hev⟩, ?_, ⟨k1.below hb, hA8, ?_, k4, hs'⟩, ?_, ⟨HE.out.new.1, hu.size⟩, ?_, ?_, ?_, ?_, ?_, ?_, HFN.out.txr.keep (.of_below hb)⟩
        · obtain ⟨ys', hy⟩ := own_more k3 hle
          refine ⟨el, ys', ?_⟩
          rw [g3, hev]
          exact World.ownsRow.alloc hy _
        · rw [if_pos rfl]
          exact World.ownsRow.alloc k3 _
        · rintro k (rfl | rfl | rfl)
          · exact cblk_not HMS.out k1 (by decide) (by decide) (by decide) (by decide) (by decide)
          · exact fun hc => Nat.lt_irrefl _ (HMS.out.lt _ hc).1
          · exact HFN.out.dis k (.inr (.inr rfl))
        · rw [g4]; exact hon.1
        · rw [g4]; have := hPc.nxl; omega
        · rw [g5]
          have h1 := hPc.cnt
          have h2 := HE.out.sp
          have h3 : (p + 1 - f) * 65540 = (p - f) * 65540 + 65540 := by rw [show p + 1 - f = (p - f) + 1 by omega, Nat.succ_mul]
          omega
        · split
          · exact HE.out.bl
          · rw [List.length_set]; exact HE.out.bl
        · rw [g4, g5]; exact HE.out.run_next HP.out.1 HP.out.2.1
        · refine ⟨fun k hk hn => (hb.block k (Nat.lt_of_lt_of_le hk hu.size)).trans (hu.keep k hk hn), fun k hk => ?_, fun B' w0 h0 hB => (hu.bel B' w0 h0 hB).trans (hb.mono (by omega)), Nat.le_trans hu.size hb.size⟩
          rcases hk with e | rfl | rfl | rfl
          · exact hu.new k (.inl e)
          · exact .inr HE.out.new.1
          · exact .inr hu.size
          · exact hu.new k (.inr (.inr (.inr rfl)))
      have HNW := Lib.hid hnew
      clear hb hA8 hon hPc hnew
      go_roundg (N + 2 - (p + 1))
      case measure => have := HGK.out.1; have := HN.out; have := HP.out.2.1; omega
      case rel => exact ⟨p + 1, s', _, _, rfl, by omega, by have := HN.out; have := HP.out.2.1; omega, rfl, HNW.out⟩
end Go.Proofs.YtfmcjmkdlldlhaaDoor
