/-
  The steps of one thread's way, as they lie in memory.
-/
import Derived.Test.YtfmcjmkdlldlhaaDoorLgA
namespace Go.Proofs.YtfmcjmkdlldlhaaDoor
open Go.RowKit

theorem stp_old {M : List Ins} {tx : List Int} {p f i : Nat} {c : LSt} {k : List Nat} (hk : c.k = i :: k) (hv : c.V i = true) : stp M tx p f c = ⟨c.V, k, c.nx, c.sp, c.dn⟩ := by
  unfold stp
  rw [hk]
  simp [hv]
theorem stp_new0 {M : List Ins} {tx : List Int} {p f i : Nat} {c : LSt} {k : List Nat} (hk : c.k = i :: k) (him : i < M.length) (hv : c.V i = false) :
    stp M tx p f c = ⟨upd c.V i, pushes M tx.length p i ++ k, c.nx ++ (if takesB M tx p i then [(i + 1, f)] else []), c.sp + 1, c.dn ++ (if isDone M i then [f] else [])⟩ := by
  have him : ¬ M.length ≤ i := by omega
  unfold stp
  rw [hk]
  simp [hv, him]
theorem own_cap {W : World} {base sz n : Nat} {e : TypeId} {a : Addr} {m c : Nat} {xs : List Value} (h : W.ownsRow base e sz (.slice (some a) m c) n xs) : m ≤ c := by
  rcases h.2 with ⟨h1, _⟩ | ⟨g, cap, cur, h1, _, _, h2, _⟩
  · simp at h1
  · simp only [Value.slice.injEq] at h1
    omega
/-- An instruction of the machine, in memory. -/
theorem Mid.instr {W : World} {base : Nat} {M : List Ins} {s : SO} {fs : List Value} (h : Mid W base M s fs) {mb m mc : Nat} (hv : s.mv = .slice (some ⟨mb, 0, none⟩) m mc) {i : Nat} {x : Ins} (hx : M[i]? = some x) {p0 p1 p2 p3 : Nat} (hp : x.set = [p0, p1, p2, p3]) :
    W.cell? ⟨mb, i * 7, none⟩ = some (.int .i8 x.op) ∧ W.cell? ⟨mb, i * 7 + 1, none⟩ = some (.int .u64 (p0 : Int)) ∧ W.cell? ⟨mb, i * 7 + 2, none⟩ = some (.int .u64 (p1 : Int)) ∧ W.cell? ⟨mb, i * 7 + 3, none⟩ = some (.int .u64 (p2 : Int)) ∧ W.cell? ⟨mb, i * 7 + 4, none⟩ = some (.int .u64 (p3 : Int)) ∧ W.cell? ⟨mb, i * 7 + 5, none⟩ = some (.int .i64 x.x) ∧ W.cell? ⟨mb, i * 7 + 6, none⟩ = some (.int .i64 x.y) := by
  have hm := h.m
  rw [hv] at hm
  obtain rfl := own_len hm
  have hi := (List.getElem?_eq_some_iff.1 hx).1
  have hc : ∀ c, c < 7 → W.cell? ⟨mb, i * 7 + c, none⟩ = (encI x)[c]? := fun c hc => by
    rw [(own_cell hm (i * 7 + c) (by rw [cellsI_len]; omega)).1, cellsI_get hc hx]
  have he : encI x = [.int .i8 x.op, .int .u64 (p0 : Int), .int .u64 (p1 : Int), .int .u64 (p2 : Int), .int .u64 (p3 : Int), .int .i64 x.x, .int .i64 x.y] := by
    unfold encI
    rw [hp]
    rfl
  rw [he] at hc
  exact ⟨hc 0 (by omega), hc 1 (by omega), hc 2 (by omega), hc 3 (by omega), hc 4 (by omega), hc 5 (by omega), hc 6 (by omega)⟩
/-- The search and what lies beside it, in the midst of a thread's way. -/
structure FlM (W0 W : World) (base : Nat) (M : List Ins) (tx : List Int) (s0 : SO) (c : LSt) (sz : List Int) (xv kv : Value) (Fd : Nat → Prop) (J : List Nat → World → Prop) (bx : Nat) (cx : List Value) (a : Option Addr) (n cp : Nat) : Prop where
  mid : Mid W base M (soAt s0 c sz xv kv) (soCells (soAt s0 c sz xv kv))
  frm : Frm W0 W base s0 (soAt s0 c sz xv kv) Fd J c.dn bx cx a n cp tx
section
variable {fid : FuncId} {caps : Array Value} {W0 W W' : World} {base : Nat} {M : List Ins} {tx : List Int} {s0 : SO} {c : LSt} {sz : List Int} {xv kv : Value} {Fd : Nat → Prop} {J : List Nat → World → Prop} {bx : Nat} {cx : List Value} {a : Option Addr} {n cp : Nat}
theorem FlM.size (h : FlM W0 W base M tx s0 c sz xv kv Fd J bx cx a n cp) : base ≤ W.heap.size := Nat.le_trans h.mid.ge (Nat.le_of_lt h.mid.o.lt)
theorem FlM.below (D : Dn fid caps base Fd J) (h : FlM W0 W base M tx s0 c sz xv kv Fd J bx cx a n cp) (hb : Below W.heap.size W W') : FlM W0 W' base M tx s0 c sz xv kv Fd J bx cx a n cp :=
  ⟨h.mid.below hb, h.frm.below D hb h.size⟩
theorem FlM.pop (D : Dn fid caps base Fd J) {b K kc i : Nat} {k : List Nat} (h : FlM W0 W base M tx s0 c sz xv (.slice (some ⟨b, 0, none⟩) (K + 1) kc) Fd J bx cx a n cp) (hk : c.k = i :: k) (hK : k.length = K) :
    FlM W0 (W.setCell ⟨s0.g, 7, none⟩ (.slice (some ⟨b, 0, none⟩) K kc)) base M tx s0 ⟨c.V, k, c.nx, c.sp, c.dn⟩ sz xv (.slice (some ⟨b, 0, none⟩) K kc) Fd J bx cx a n cp := by
  have hp := h.mid.pop rfl hk hK
  have hs : CBlk (soAt s0 c sz xv (.slice (some ⟨b, 0, none⟩) (K + 1) kc)) = CBlk (soAt s0 ⟨c.V, k, c.nx, c.sp, c.dn⟩ sz xv (.slice (some ⟨b, 0, none⟩) K kc)) := cblk_same rfl rfl rfl rfl rfl rfl
  exact ⟨hp.setf 7 _, (h.frm.same hs).step D hp (Up.setf _ (.inl rfl) hp.ge)⟩
theorem FlM.stamp (D : Dn fid caps base Fd J) {b m mc : Nat} (hv : s0.stv = .slice (some ⟨b, 0, none⟩) m mc) (h : FlM W0 W base M tx s0 c sz xv kv Fd J bx cx a n cp) (i : Nat) (x : Int) :
    FlM W0 (W.setCell ⟨b, i, none⟩ (.int .i16 x)) base M tx s0 c (sz.set i x) xv kv Fd J bx cx a n cp := by
  have hs : CBlk (soAt s0 c sz xv kv) = CBlk (soAt s0 c (sz.set i x) xv kv) := cblk_same rfl rfl rfl rfl rfl rfl
  have hb : CBlk (soAt s0 c sz xv kv) b := .inr (.inr (.inl (by show s0.stv.ownBlock = _; rw [hv]; rfl)))
  have hu : Up W (W.setCell ⟨b, i, none⟩ (.int .i16 x)) base (CBlk (soAt s0 c sz xv kv)) (CBlk (soAt s0 c (sz.set i x) xv kv)) := hs ▸ Up.setf _ hb (h.mid.lt b hb).2
  exact ⟨h.mid.sett hv i x, h.frm.step D h.mid hu⟩
theorem FlM.steps (D : Dn fid caps base Fd J) (h : FlM W0 W base M tx s0 c sz xv kv Fd J bx cx a n cp) : FlM W0 (W.setCell ⟨s0.g, 4, none⟩ (.int .i64 ((c.sp : Int) + 1))) base M tx s0 ⟨c.V, c.k, c.nx, c.sp + 1, c.dn⟩ sz xv kv Fd J bx cx a n cp := by
  have hs : CBlk (soAt s0 c sz xv kv) = CBlk (soAt s0 ⟨c.V, c.k, c.nx, c.sp + 1, c.dn⟩ sz xv kv) := cblk_same rfl rfl rfl rfl rfl rfl
  have hm := h.mid.setf 4 (.int .i64 ((c.sp : Int) + 1))
  refine ⟨?_, (h.frm.step D h.mid (Up.setf _ (.inl rfl) h.mid.ge)).same hs⟩
  exact ⟨hm.o, hm.m, hm.st, hm.nw, hm.nx, hm.sk, hm.ap, hm.ge⟩
theorem FlM.appX (D : Dn fid caps base Fd J) (h : FlM W0 W base M tx s0 c sz xv kv Fd J bx cx a n cp) {v' : Value} {t : Nat × Nat} (ho : W'.ownsRow base TT 2 v' (c.nx.length + 1) (cellsT c.nx ++ [.int .i64 (t.1 : Int), .int .i64 (t.2 : Int)])) (hp : AppPost W W' base xv v') :
    FlM W0 (W'.setCell ⟨s0.g, 6, none⟩ v') base M tx s0 ⟨c.V, c.k, c.nx ++ [t], c.sp, c.dn⟩ sz v' kv Fd J bx cx a n cp ∧ W'.cell? ⟨s0.g, 6, none⟩ = some xv ∧ W'.frozen? ⟨s0.g, 6, none⟩ = false := by
  have hA := h.mid.appX ho hp
  exact ⟨⟨hA.1.setf 6 v', (h.frm.step D h.mid hA.2).step D hA.1 (Up.setf _ (.inl rfl) hA.1.ge)⟩, hA.1.o.cell 6, hA.1.o.frozen 6⟩
theorem FlM.appK (D : Dn fid caps base Fd J) (h : FlM W0 W base M tx s0 c sz xv kv Fd J bx cx a n cp) {v' : Value} {ts k' : List Nat} {m : Nat} (hm : c.k.length + ts.length = m) (hk' : k' = ts.reverse ++ c.k) (ho : W'.ownsRow base 3 1 v' m (cellsN c.k.reverse ++ cellsN ts)) (hp : AppPost W W' base kv v') :
    FlM W0 (W'.setCell ⟨s0.g, 7, none⟩ v') base M tx s0 ⟨c.V, k', c.nx, c.sp, c.dn⟩ sz xv v' Fd J bx cx a n cp ∧ W'.cell? ⟨s0.g, 7, none⟩ = some kv ∧ W'.frozen? ⟨s0.g, 7, none⟩ = false := by
  have hA := h.mid.appK hm hk' ho hp
  exact ⟨⟨hA.1.setf 7 v', (h.frm.step D h.mid hA.2).step D hA.1 (Up.setf _ (.inl rfl) hA.1.ge)⟩, hA.1.o.cell 7, hA.1.o.frozen 7⟩
theorem FlM.told (D : Dn fid caps base Fd J) (h : FlM W0 W base M tx s0 c sz xv kv Fd J bx cx a n cp) {f : Nat} (hj : J (c.dn ++ [f]) W') (hu : Up W W' base Fd Fd) : FlM W0 W' base M tx s0 ⟨c.V, c.k, c.nx, c.sp, c.dn ++ [f]⟩ sz xv kv Fd J bx cx a n cp :=
  ⟨h.mid.told hu h.frm.dis, h.frm.told D hj hu⟩
theorem FlR.flm {p f j0 : Nat} {c0 : LSt} (h : FlR W0 W base M tx p f s0 c0 c sz xv kv Fd J bx j0 a n cp) : FlM W0 W base M tx s0 c sz xv kv Fd J bx (encT (j0, f)) a n cp := ⟨h.mid, h.frm⟩
/-- A round is done: the search is where the model's step says. -/
theorem flR_next {p f j0 i : Nat} {c0 c' : LSt} {k : List Nat} {sz' : List Int} {xv' kv' : Value} (hG : Good M) (h : FlR W0 W base M tx p f s0 c0 c sz xv kv Fd J bx j0 a n cp) (hk : c.k = i :: k) (hc : c' = stp M tx p f c) (hs : StR M sz' s0.stamp c'.V) (hm : FlM W0 W' base M tx s0 c' sz' xv' kv' Fd J bx (encT (j0, f)) a n cp) :
    FlR W0 W' base M tx p f s0 c0 c' sz' xv' kv' Fd J bx j0 a n cp ∧ mu M.length c' < mu M.length c := by
  have hne : c.k ≠ [] := by rw [hk]; simp
  have hmu := stp_mu M tx p f c hne
  have him := h.klt i (by rw [hk]; exact List.mem_cons_self)
  subst hc
  cases hv : c.V i with
  | true =>
    have e := stp_old (M := M) (tx := tx) (p := p) (f := f) hk hv
    have hf := fin_stp M tx p f c hne
    rw [e] at hm hs hmu hf ⊢
    exact ⟨⟨hm.mid, hm.frm, hs, hf.trans h.fin, fun q hq => h.klt q (by rw [hk]; exact List.mem_cons_of_mem _ hq), by have := h.mu; omega, h.sp, h.nx⟩, hmu⟩
  | false =>
    have e := stp_new0 (M := M) (tx := tx) (p := p) (f := f) hk him hv
    have hf := fin_stp M tx p f c hne
    have hu := (unv_upd M.length c.V i).1 him hv
    have h1 := h.sp
    have h2 := h.nx
    rw [e] at hm hs hmu hf ⊢
    refine ⟨⟨hm.mid, hm.frm, hs, hf.trans h.fin, fun q hq => ?_, by have := h.mu; omega, ?_, ?_⟩, hmu⟩
    · rcases List.mem_append.1 hq with hq | hq
      · exact hG.push _ _ _ _ hq
      · exact h.klt q (by rw [hk]; exact List.mem_cons_of_mem _ hq)
    · show c.sp + 1 + unv M.length (upd c.V i) ≤ _
      omega
    · show (c.nx ++ (if takesB M tx p i then [(i + 1, f)] else [])).length + unv M.length (upd c.V i) ≤ _
      rw [List.length_append]
      split <;> simp <;> omega
end
/-- The step at an instruction that was not met. -/
theorem stp_new {M : List Ins} {tx : List Int} {p f i : Nat} {c : LSt} {k : List Nat} {a : Ins} (hk : c.k = i :: k) (hi : M[i]? = some a) (hv : c.V i = false) :
    stp M tx p f c = ⟨upd c.V i, pushes M tx.length p i ++ k, c.nx ++ (if takesB M tx p i then [(i + 1, f)] else []), c.sp + 1, c.dn ++ (if isDone M i then [f] else [])⟩ := by
  have him : ¬ M.length ≤ i := by have := (List.getElem?_eq_some_iff.1 hi).1; omega
  unfold stp
  rw [hk]
  simp [hv, him]
section
variable {M : List Ins} {tx : List Int} {p f i : Nat} {c : LSt} {k : List Nat} {a : Ins}
/-- The step, by what the instruction is. -/
theorem stp_take (hk : c.k = i :: k) (hi : M[i]? = some a) (hv : c.V i = false) (h1 : a.op = 1) (h2 : p < tx.length) (h3 : hasL a.set (tx[p]?.getD 0).toNat = true) : (⟨upd c.V i, k, c.nx ++ [(i + 1, f)], c.sp + 1, c.dn⟩ : LSt) = stp M tx p f c := by
  rw [stp_new hk hi hv]
  have e : takesB M tx p i = true := by
    unfold takesB
    rw [hi]
    simp only [h1, h2, h3, decide_true, Bool.and_self]
  rw [e]
  simp [pushes, isDone, hi, h1]
theorem stp_none (hk : c.k = i :: k) (hi : M[i]? = some a) (hv : c.V i = false) (h : (a.op = 1 ∧ ¬ (p < tx.length ∧ hasL a.set (tx[p]?.getD 0).toNat = true)) ∨ (a.op = 2 ∧ p ≠ 0) ∨ (a.op = 3 ∧ p ≠ tx.length) ∨ (a.op ≠ 1 ∧ a.op ≠ 2 ∧ a.op ≠ 3 ∧ a.op ≠ 4 ∧ a.op ≠ 5 ∧ a.op ≠ 6)) : (⟨upd c.V i, k, c.nx, c.sp + 1, c.dn⟩ : LSt) = stp M tx p f c := by
  rw [stp_new hk hi hv]
  rcases h with ⟨h1, h2⟩ | ⟨h1, h2⟩ | ⟨h1, h2⟩ | ⟨h1, h2, h3, h4, h5, h6⟩
  · have e : takesB M tx p i = false := by
      unfold takesB
      rw [hi]
      cases hb : hasL a.set (tx[p]?.getD 0).toNat
      · simp only [hb, Bool.and_false]
      · have : ¬ p < tx.length := fun h => h2 ⟨h, hb⟩
        simp only [this, decide_false, Bool.and_false, Bool.false_and]
    rw [e]
    simp [pushes, isDone, hi, h1]
  · simp [pushes, takesB, isDone, hi, h1, h2]
  · simp [pushes, takesB, isDone, hi, h1, h2]
  · simp [pushes, takesB, isDone, hi, h1, h2, h3, h4, h5, h6]
theorem stp_push (hk : c.k = i :: k) (hi : M[i]? = some a) (hv : c.V i = false) (h : (a.op = 2 ∧ p = 0) ∨ (a.op = 3 ∧ p = tx.length)) : (⟨upd c.V i, [i + 1].reverse ++ k, c.nx, c.sp + 1, c.dn⟩ : LSt) = stp M tx p f c := by
  rw [stp_new hk hi hv]
  rcases h with ⟨h1, h2⟩ | ⟨h1, h2⟩ <;> simp [pushes, takesB, isDone, hi, h1, h2]
theorem stp_jump (hk : c.k = i :: k) (hi : M[i]? = some a) (hv : c.V i = false) (h1 : a.op = 4) : (⟨upd c.V i, [a.x.toNat].reverse ++ k, c.nx, c.sp + 1, c.dn⟩ : LSt) = stp M tx p f c := by
  rw [stp_new hk hi hv]
  simp [pushes, takesB, isDone, hi, h1]
theorem stp_split (hk : c.k = i :: k) (hi : M[i]? = some a) (hv : c.V i = false) (h1 : a.op = 5) : (⟨upd c.V i, [a.y.toNat, a.x.toNat].reverse ++ k, c.nx, c.sp + 1, c.dn⟩ : LSt) = stp M tx p f c := by
  rw [stp_new hk hi hv]
  simp [pushes, takesB, isDone, hi, h1]
theorem stp_done (hk : c.k = i :: k) (hi : M[i]? = some a) (hv : c.V i = false) (h1 : a.op = 6) : (⟨upd c.V i, k, c.nx, c.sp + 1, c.dn ++ [f]⟩ : LSt) = stp M tx p f c := by
  rw [stp_new hk hi hv]
  simp [pushes, takesB, isDone, hi, h1]
end
end Go.Proofs.YtfmcjmkdlldlhaaDoor
