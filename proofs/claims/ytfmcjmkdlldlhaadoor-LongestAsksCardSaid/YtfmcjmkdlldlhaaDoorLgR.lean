/-
  longest.Search: a whole search; ready, Steps.
-/
import Derived.Test.YtfmcjmkdlldlhaaDoorLgP
import Derived.Deep.DeepCutAuto
import Derived.Deep.CutBlock
import Derived.Deep.RegionLaw
namespace Go.Proofs.YtfmcjmkdlldlhaaDoor
open Go.RowKit

attribute [local go_sem] Oper.semAt_some

theorem infoW : (Tryd.prog.info? 84).map (fun i => (i.zero, i.size, i.bytes)) = some (some (.int .i16 0), 1, 2) := by kernel_rfl
theorem infoBo : (Tryd.prog.info? 4).map (fun i => (i.zero, i.size, i.bytes)) = some (some (.bool false), 1, 1) := by kernel_rfl
theorem made1 (z : Value) (hz1 : z.cells = #[z]) (n : Nat) : madeCells z.cells n = (List.replicate n z).toArray := by
  apply Array.ext'
  rw [hz1]
  simp [madeCells, Nat.mod_one]
  exact List.eq_replicate_iff.2 ⟨by simp, fun b hb => by simp at hb; exact hb.2.symm⟩
theorem madeW (w : World) (n : Nat) (hn : n ≤ 70368744177664) : (Instr.makeSlice 83 (.int .i64 n) (.int .i64 n)).run Tryd.prog w = .ok (.slice (some ⟨w.heap.size, 0, none⟩) n n) (w.alloc (.cells (List.replicate n (.int .i16 0)).toArray 84)) := by
  obtain ⟨i, hi, hz, hs, hb⟩ := info_parts infoW
  have h := run_make (P := Tryd.prog) w 83 84 i (.int .i16 0) Tryd.underlying83 hi hz .i64 .i64 n n (by omega) (by omega) (by rw [hb]; omega) (by omega)
  rw [h, hs, made1 _ rfl]
  simp
theorem madeBo (w : World) (n : Nat) (hn : n ≤ 140737488351232) : (Instr.makeSlice 71 (.int .i64 n) (.int .i64 n)).run Tryd.prog w = .ok (.slice (some ⟨w.heap.size, 0, none⟩) n n) (w.alloc (.cells (List.replicate n (.bool false)).toArray 4)) := by
  obtain ⟨i, hi, hz, hs, hb⟩ := info_parts infoBo
  have h := run_make (P := Tryd.prog) w 71 4 i (.bool false) Tryd.underlying71 hi hz .i64 .i64 n n (by omega) (by omega) (by rw [hb]; omega) (by omega)
  rw [h, hs, made1 _ rfl]
  simp
theorem own_new (w : World) (base n : Nat) (e : TypeId) (xs : List Value) (hb : base ≤ w.heap.size) (hm : n ≤ maxLen) (hn : xs.length = n) : (w.alloc (.cells xs.toArray e)).ownsRow base e 1 (.slice (some ⟨w.heap.size, 0, none⟩) n n) n xs :=
  ⟨by omega, .inr ⟨w.heap.size, n, _, rfl, hb, heap_alloc_new w _, Nat.le_refl _, hm, by simp [hn], by rw [Nat.mul_one]; exact List.take_of_length_le (by simp [hn])⟩⟩

/-- The stamps of a search between two calls. -/
def SrOk (M : List Ins) (s : SO) : Prop := 0 ≤ s.stamp ∧ s.stamp ≤ 32767 ∧ (∀ x ∈ s.sz, x ≤ s.stamp) ∧ ((s.stv = .slice none 0 0 ∧ s.sz = []) ∨ s.sz.length = M.length)
theorem StOk.sr {M : List Ins} {s : SO} (h : StOk M s) : SrOk M s := ⟨h.2.1, h.2.2.1, h.2.2.2, .inr h.1⟩
/-- A whole search between two calls. -/
structure Sob (W : World) (base : Nat) (M : List Ins) (s : SO) : Prop where
  mid : Mid W base M s (soCells s)
  stk : s.stk = []
  sr : SrOk M s
  en : ∃ n xs, W.ownsRow base 4 1 s.ev n xs
def SBlk (s : SO) (k : Nat) : Prop := CBlk s k ∨ s.ev.ownBlock = some k
section
variable {W W' : World} {base : Nat} {M : List Ins} {s : SO}
theorem Sob.lt (h : Sob W base M s) : ∀ k, SBlk s k → k < W.heap.size ∧ base ≤ k := by
  rintro k (e | e)
  · exact h.mid.lt k e
  · obtain ⟨n, xs, ho⟩ := h.en
    exact (World.ownsRow.lt ho k e).symm
theorem Sob.keep (h : Sob W base M s) (hk : ∀ k, SBlk s k → W'.heap[k]? = W.heap[k]?) : Sob W' base M s :=
  ⟨h.mid.keep fun k _ hc => hk k (.inl hc), h.stk, h.sr, by
    obtain ⟨n, xs, ho⟩ := h.en
    exact ⟨n, xs, own_blk ho fun k e => hk k (.inr e)⟩⟩
theorem Sob.below (h : Sob W base M s) (hb : Below W.heap.size W W') : Sob W' base M s := h.keep fun k hk => hb.block k (h.lt k hk).1
theorem Sob.nb (h : Sob W base M s) : ∀ k, SBlk s k → ∀ cs fz, W.heap[k]? ≠ some (.cells cs 5 fz) := by
  rintro k (e | e)
  · exact h.mid.nb k e
  · obtain ⟨n, xs, ho⟩ := h.en
    exact own_nb ho (by decide) e
theorem Sob.size (h : Sob W base M s) : base ≤ W.heap.size := Nat.le_trans h.mid.ge (Nat.le_of_lt h.mid.o.lt)
theorem neBS : (4 : TypeId) ≠ TS := by decide
theorem neBI : (4 : TypeId) ≠ TI := by decide
theorem neBW : (4 : TypeId) ≠ 84 := by decide
theorem neBT : (4 : TypeId) ≠ TT := by decide
theorem neBK : (4 : TypeId) ≠ 3 := by decide
/-- The row of ends lies apart from the rest. -/
theorem Sob.ends_far (h : Sob W base M s) : ∀ k, s.ev.ownBlock = some k → ¬ CBlk s k := by
  obtain ⟨n, xs, ho⟩ := h.en
  rintro k e (e2 | e2 | e2 | e2 | e2 | e2)
  · subst e2
    exact h.mid.o.ne_own ho neBS.symm e
  · exact apart_types ho h.mid.m neBI k e e2
  · exact apart_types ho h.mid.st neBW k e e2
  · exact apart_types ho h.mid.nw neBT k e e2
  · exact apart_types ho h.mid.nx neBT k e e2
  · exact apart_types ho h.mid.sk neBK k e e2
end

/-- What ready leaves. -/
def RdyPost (W : World) (base : Nat) (M : List Ins) (s : SO) (e : Ending) (W' : World) : Prop :=
  e = .returned (.bool true) ∧ ∃ s', s'.g = s.g ∧ s'.mv = s.mv ∧ s'.ev = s.ev ∧ s'.now = [] ∧ s'.steps = 0 ∧ StOk M s' ∧ Sob W' base M s' ∧ Up W W' base (SBlk s) (SBlk s')

/-- From outside: nothing but the count is new. -/
theorem ready_no (W : World) (base : Nat) (M : List Ins) (s : SO) (h : Sob W base M s) (n : Nat) (from_ : Int) (hf : from_ < 0 ∨ (n : Int) < from_) :
    Calls Tryd.prog 27 #[.pointer (some ⟨s.g, 0, none⟩), .int .i64 (n : Int), .int .i64 from_] W fun e W' => e = .returned (.bool false) ∧ Sob W' base M { s with steps := 0 } ∧ Up W W' base (SBlk s) (SBlk s) := by
  have c0 : W.cell? ⟨s.g, 0, none⟩ = some (.bool true) := h.mid.o.cell 0
  have c4 : W.cell? ⟨s.g, 4, none⟩ = some (.int .i64 (s.steps : Int)) := h.mid.o.cell 4
  have f4 : W.frozen? ⟨s.g, 4, none⟩ = false := h.mid.o.frozen 4
  have hm := h.mid.setf 4 (.int .i64 0)
  have hen := h.en
  have hu : Up W (W.setCell ⟨s.g, 4, none⟩ (.int .i64 0)) base (SBlk s) (SBlk s) := Up.setf _ (.inl (.inl rfl)) h.mid.ge
  have hs : Sob (W.setCell ⟨s.g, 4, none⟩ (.int .i64 0)) base M { s with steps := 0 } := by
    refine ⟨⟨hm.o, hm.m, hm.st, hm.nw, hm.nx, hm.sk, hm.ap, hm.ge⟩, h.stk, h.sr, ?_⟩
    obtain ⟨m, xs, ho⟩ := hen
    exact ⟨m, xs, own_set_at h.mid.o ho neBS.symm⟩
  have HS := Lib.hid hs
  have HU := Lib.hid hu
  clear h hm hen hs hu
  go_enter Tryd.func27, Tryd.ntmps27
  by_cases hneg : from_ < 0
  · have e0 : decide (from_ < 0) = true := decide_eq_true hneg
    go_wp2_with fail
    go_ret
    exact ⟨rfl, HS.out, HU.out⟩
  · have e0 : decide (from_ < 0) = false := decide_eq_false hneg
    have hgt : (n : Int) < from_ := by omega
    have e1 : decide ((n : Int) < from_) = true := decide_eq_true hgt
    go_wp2_with fail
    go_ret
    exact ⟨rfl, HS.out, HU.out⟩
set_option maxHeartbeats 2000000 in
theorem ready_yes (W : World) (base : Nat) (M : List Ins) (s : SO) (h : Sob W base M s) (hM : M.length ≤ 65540) (hM0 : 0 < M.length) (n f : Nat) (hf : f ≤ n) :
    Calls Tryd.prog 27 #[.pointer (some ⟨s.g, 0, none⟩), .int .i64 (n : Int), .int .i64 (f : Int)] W (RdyPost W base M s) := by
  have c0 : W.cell? ⟨s.g, 0, none⟩ = some (.bool true) := h.mid.o.cell 0
  have c4 : W.cell? ⟨s.g, 4, none⟩ = some (.int .i64 (s.steps : Int)) := h.mid.o.cell 4
  have f4 : W.frozen? ⟨s.g, 4, none⟩ = false := h.mid.o.frozen 4
  have hm := h.mid.setf 4 (.int .i64 0)
  have hu : Up W (W.setCell ⟨s.g, 4, none⟩ (.int .i64 0)) base (SBlk s) (SBlk { s with steps := 0 }) := Up.setf (SBlk s) (.inl (.inl rfl)) h.mid.ge
  have hs : Sob (W.setCell ⟨s.g, 4, none⟩ (.int .i64 0)) base M { s with steps := 0 } := by
    refine ⟨⟨hm.o, hm.m, hm.st, hm.nw, hm.nx, hm.sk, hm.ap, hm.ge⟩, h.stk, h.sr, ?_⟩
    obtain ⟨m, xs, ho⟩ := h.en
    exact ⟨m, xs, own_set_at h.mid.o ho neBS.symm⟩
  have HS := Lib.hid hs
  have HU := Lib.hid hu
  clear h hm hs hu
  go_enter Tryd.func27, Tryd.ntmps27
  have e0 : decide ((f : Int) < 0) = false := decide_eq_false (by omega)
  have e1 : decide ((n : Int) < (f : Int)) = false := decide_eq_false (by omega)
  have e1n : decide (n < f) = false := decide_eq_false (by omega)
  go_upto_region 4 with fail
  clear c0 c4 f4
  generalize W.setCell ⟨s.g, 4, none⟩ (.int .i64 0) = w1 at HS HU ⊢
  obtain ⟨mb, mc, hmv⟩ := own_some HS.out.mid.m hM0
  have c1 : w1.cell? ⟨s.g, 1, none⟩ = some (.slice (some ⟨mb, 0, none⟩) M.length mc) := (HS.out.mid.o.cell 1).trans (congrArg some hmv)
  obtain ⟨sa, sc, hsv⟩ := own_shape HS.out.mid.st
  have hsv : s.stv = .slice sa s.sz.length sc := hsv
  have c2 : w1.cell? ⟨s.g, 2, none⟩ = some (.slice sa s.sz.length sc) := (HS.out.mid.o.cell 2).trans (congrArg some hsv)
  have HMV := Lib.hid hmv
  clear hmv
  go_upto_region 6 with fail
  go_cut [36] (fun v wx => v = .bool (decide ((sc : Int) < (M.length : Int))) ∧ ∃ q : Nat, w1.drewN q = wx)
  case first =>
    go_quiet (fail)
    rename_i nq
    go_wp2_with fail
    go_meet
    case rel => exact ⟨by simp, nq, rfl⟩
  case rest =>
  obtain ⟨e36, q, hq⟩ := hcut
  subst e36
  have HS1 := Lib.hid (HS.out.below (below_drewN (Below.refl _ _) q))
  have HU1 := Lib.hid (HU.out.trans (Up.below _ (below_drewN (Below.refl _ _) q) HS.out.size))
  rw [hq] at HS1 HU1
  clear hq c1 c2 HS HU
  generalize wc = w2 at HS1 HU1 ⊢
  go_upto_if 36 with fail
  go_cut [] (fun wx => ∃ stv sz, sz.length = M.length ∧ (∀ x ∈ sz, x ≤ s.stamp) ∧ Sob wx base M { s with steps := 0, stv := stv, sz := sz } ∧ Up W wx base (SBlk s) (SBlk { s with steps := 0, stv := stv, sz := sz }))
  case first =>
    by_cases hl : (sc : Int) < (M.length : Int)
    · have hlb : decide ((sc : Int) < (M.length : Int)) = true := decide_eq_true hl
      rw [hlb]
      have hl2 := HS1.out.sr
      have c1 : w2.cell? ⟨s.g, 1, none⟩ = some (.slice (some ⟨mb, 0, none⟩) M.length mc) := (HS1.out.mid.o.cell 1).trans (congrArg some HMV.out)
      have hmk := madeW w2 M.length (by omega)
      have hbn := (Below.refl w2.heap.size w2).alloc (Nat.le_refl _) (.cells (List.replicate M.length (.int .i16 0)).toArray 84)
      have ho := own_new w2 base M.length 84 (List.replicate M.length (.int .i16 0)) HS1.out.size (by unfold maxLen; omega) (by simp)
      have HA := Lib.hid (HS1.out.below hbn)
      have HAU := Lib.hid (HU1.out.trans (Up.below _ hbn HS1.out.size))
      have HO := Lib.hid ho
      generalize hwn : w2.alloc (.cells (List.replicate M.length (.int .i16 0)).toArray 84) = w3 at hmk HA HAU HO
      clear hbn ho hwn
      have c2 : w3.cell? ⟨s.g, 2, none⟩ = some s.stv := HA.out.mid.o.cell 2
      have f2 : w3.frozen? ⟨s.g, 2, none⟩ = false := HA.out.mid.o.frozen 2
      have hfar : ∀ k, (Value.slice (some ⟨w2.heap.size, 0, none⟩) M.length M.length).ownBlock = some k → w2.heap.size ≤ k := fun k hk => by simp only [Value.ownBlock, Option.some.injEq] at hk; omega
      have HFar := Lib.hid hfar
      have HH2 := Lib.hid HU1.out.size
      generalize w2.heap.size = h2 at hmk HO HFar HH2
      have hm := HA.out.mid.setf 2 (.slice (some ⟨h2, 0, none⟩) M.length M.length)
      have hu : Up w3 (w3.setCell ⟨s.g, 2, none⟩ (.slice (some ⟨h2, 0, none⟩) M.length M.length)) base (SBlk { s with steps := 0 }) (SBlk { s with steps := 0 }) := Up.setf _ (.inl (.inl rfl)) HA.out.mid.ge
      have hs : Sob (w3.setCell ⟨s.g, 2, none⟩ (.slice (some ⟨h2, 0, none⟩) M.length M.length)) base M { s with steps := 0, stv := .slice (some ⟨h2, 0, none⟩) M.length M.length, sz := List.replicate M.length 0 } := by
        refine ⟨⟨hm.o, hm.m, ?_, hm.nw, hm.nx, hm.sk, hm.ap, hm.ge⟩, HA.out.stk, ⟨HA.out.sr.1, HA.out.sr.2.1, fun x hx => by rw [List.eq_of_mem_replicate hx]; exact HA.out.sr.1, .inr (by simp)⟩, ?_⟩
        · show World.ownsRow _ base 84 1 _ (List.replicate M.length (0 : Int)).length _
          rw [List.length_replicate, List.map_replicate]
          exact own_set_at HA.out.mid.o HO.out neSW
        · obtain ⟨m, xs, ho⟩ := HA.out.en
          exact ⟨m, xs, own_set_at HA.out.mid.o ho neBS.symm⟩
      have HS3 := Lib.hid hs
      have HU3 := Lib.hid (HAU.out.trans hu)
      clear hm hu hs hfar hl2 hl hlb
      go_wp2_with fail
      go_meet
      case rel =>
        refine ⟨_, _, by simp, fun x hx => by rw [List.eq_of_mem_replicate hx]; exact HS3.out.sr.1, HS3.out, ⟨HU3.out.keep, fun k hk => ?_, HU3.out.bel, HU3.out.size⟩⟩
        have hold : SBlk { s with steps := 0 } k → SBlk s k ∨ W.heap.size ≤ k := HU3.out.new k
        rcases hk with (e | e | e | e | e | e) | e
        · exact hold (.inl (.inl e))
        · exact hold (.inl (.inr (.inl e)))
        · have : h2 = k := by simpa [Value.ownBlock] using e
          have := HH2.out
          right; omega
        · exact hold (.inl (.inr (.inr (.inr (.inl e)))))
        · exact hold (.inl (.inr (.inr (.inr (.inr (.inl e))))))
        · exact hold (.inl (.inr (.inr (.inr (.inr (.inr e))))))
        · exact hold (.inr e)
    · have hlb : decide ((sc : Int) < (M.length : Int)) = false := decide_eq_false hl
      rw [hlb]
      have HL := Lib.hid hl
      clear hl hlb
      go_wp2_with fail
      go_meet
      case rel =>
        refine ⟨s.stv, s.sz, ?_, HS1.out.sr.2.2.1, HS1.out, HU1.out⟩
        rcases HS1.out.sr.2.2.2 with ⟨e, _⟩ | e
        · exfalso
          have e : s.stv = .slice none 0 0 := e
          rw [hsv] at e
          simp only [Value.slice.injEq] at e
          have := HL.out
          omega
        · exact e
  case rest =>
  obtain ⟨stv, sz, z1, z2, hs, hu⟩ := hcut
  have HS2 := Lib.hid hs
  have HU2 := Lib.hid hu
  have HZ := Lib.hid (And.intro z1 z2)
  clear hs hu z1 z2 HS1 HU1
  generalize wc = w4 at HS2 HU2 ⊢
  obtain ⟨na, nc, hnv⟩ := own_shape HS2.out.mid.nw
  have hnv : s.nv = .slice na s.now.length nc := hnv
  obtain ⟨xa, xc, hxv⟩ := own_shape HS2.out.mid.nx
  have hxv : s.xv = .slice xa s.next.length xc := hxv
  have c5 : w4.cell? ⟨s.g, 5, none⟩ = some (.slice na s.now.length nc) := (HS2.out.mid.o.cell 5).trans (congrArg some hnv)
  have c6 : w4.cell? ⟨s.g, 6, none⟩ = some (.slice xa s.next.length xc) := (HS2.out.mid.o.cell 6).trans (congrArg some hxv)
  have f5 : w4.frozen? ⟨s.g, 5, none⟩ = false := HS2.out.mid.o.frozen 5
  have f6 : w4.frozen? ⟨s.g, 6, none⟩ = false := HS2.out.mid.o.frozen 6
  have hm0 : Mid w4 base M { s with steps := 0, stv := stv, sz := sz, nv := .slice na 0 nc, now := [], xv := .slice xa 0 xc, next := [] } (soCells { s with steps := 0, stv := stv, sz := sz }) := by
    have h := HS2.out.mid
    have h1 := h.nw
    have h2 := h.nx
    have h3 := h.ap
    have e1 : ({ s with steps := 0, stv := stv, sz := sz } : SO).nv = .slice na s.now.length nc := hnv
    have e2 : ({ s with steps := 0, stv := stv, sz := sz } : SO).xv = .slice xa s.next.length xc := hxv
    rw [e1] at h1 h3
    rw [e2] at h2 h3
    exact ⟨h.o, h.m, h.st, own_win h1 (Nat.zero_le _) (by simp [cellsT]), own_win h2 (Nat.zero_le _) (by simp [cellsT]), h.sk, fun k a b => h3 k (by rw [← a]; exact own_len_eq) (by rw [← b]; exact own_len_eq), h.ge⟩
  have hb0 : CBlk { s with steps := 0, stv := stv, sz := sz } = CBlk { s with steps := 0, stv := stv, sz := sz, nv := .slice na 0 nc, now := [], xv := .slice xa 0 xc, next := [] } :=
    cblk_same rfl rfl rfl (by show s.nv.ownBlock = _; rw [hnv]; exact own_len_eq) (by show s.xv.ownBlock = _; rw [hxv]; exact own_len_eq) rfl
  have hsb : SBlk { s with steps := 0, stv := stv, sz := sz } = SBlk { s with steps := 0, stv := stv, sz := sz, nv := .slice na 0 nc, now := [], xv := .slice xa 0 xc, next := [] } := by
    funext k
    unfold SBlk
    rw [hb0]
  have hm6 := (hm0.setf 5 (.slice na 0 nc)).setf 6 (.slice xa 0 xc)
  have hu5 : Up w4 ((w4.setCell ⟨s.g, 5, none⟩ (.slice na 0 nc)).setCell ⟨s.g, 6, none⟩ (.slice xa 0 xc)) base (SBlk { s with steps := 0, stv := stv, sz := sz }) (SBlk { s with steps := 0, stv := stv, sz := sz }) :=
    (Up.setf _ (.inl (.inl rfl)) hm0.ge).trans (Up.setf _ (.inl (.inl rfl)) hm0.ge)
  have hs6 : Sob ((w4.setCell ⟨s.g, 5, none⟩ (.slice na 0 nc)).setCell ⟨s.g, 6, none⟩ (.slice xa 0 xc)) base M { s with steps := 0, stv := stv, sz := sz, nv := .slice na 0 nc, now := [], xv := .slice xa 0 xc, next := [] } := by
    refine ⟨⟨hm6.o, hm6.m, hm6.st, hm6.nw, hm6.nx, hm6.sk, hm6.ap, hm6.ge⟩, HS2.out.stk, HS2.out.sr, ?_⟩
    obtain ⟨m, xs, ho⟩ := HS2.out.en
    exact ⟨m, xs, own_set_at (HS2.out.mid.o.set 5 (.slice na 0 nc)) (own_set_at HS2.out.mid.o ho neBS.symm) neBS.symm⟩
  have HS6 := Lib.hid (hs6.below (Below.refl _ _).drew)
  have HU6 := Lib.hid ((HU2.out.trans hu5).trans (Up.below _ (Below.refl _ _).drew hs6.size))
  have HB := Lib.hid hsb
  clear hm0 hb0 hsb hm6 hu5 hs6 hnv hxv
  go_wp2_with fail
  go_region
  all_goals
    go_wp2_with fail
    go_ret
    refine ⟨rfl, { s with steps := 0, stv := stv, sz := sz, nv := .slice na 0 nc, now := [], xv := .slice xa 0 xc, next := [] }, rfl, rfl, rfl, rfl, rfl, ⟨HZ.out.1, HS2.out.sr.1, HS2.out.sr.2.1, HZ.out.2⟩, HS6.out, ?_⟩
    have hu := HU6.out
    rw [HB.out] at hu
    exact hu

/-- The count of steps. -/
theorem steps_any (W : World) (base : Nat) (M : List Ins) (s : SO) (h : Sob W base M s) : Calls Tryd.prog 21 #[.pointer (some ⟨s.g, 0, none⟩)] W fun e w' => e = .returned (.int .i64 (s.steps : Int)) ∧ W = w' := by
  have c0 : W.cell? ⟨s.g, 0, none⟩ = some (.bool true) := h.mid.o.cell 0
  have c4 : W.cell? ⟨s.g, 4, none⟩ = some (.int .i64 (s.steps : Int)) := h.mid.o.cell 4
  clear h
  go_enter Tryd.func21, Tryd.ntmps21
  go_wp2_with fail
  go_ret
  exact ⟨rfl, rfl⟩
end Go.Proofs.YtfmcjmkdlldlhaaDoor
