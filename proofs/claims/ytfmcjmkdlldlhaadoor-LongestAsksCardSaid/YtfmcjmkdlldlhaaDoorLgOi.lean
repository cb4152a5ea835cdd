/-
  A list of instructions as an argument.
-/
import Derived.Test.YtfmcjmkdlldlhaaDoorOpen
import Derived.Test.YtfmcjmkdlldlhaaDoorLgN
import Derived.Deep.Slices
import Derived.OpenShut
namespace Go.Proofs.YtfmcjmkdlldlhaaDoor
open Go.ChangeShapes Go.WideShapes Go.ChangeAt Go.RowKit

/-- The numbers of an instruction are such as its type holds. -/
def InR (y : Ins) : Prop := (-128 ≤ y.op ∧ y.op ≤ 127) ∧ (-9223372036854775808 ≤ y.x ∧ y.x ≤ 9223372036854775807) ∧ (-9223372036854775808 ≤ y.y ∧ y.y ≤ 9223372036854775807)
theorem len7 {α : Type} (l : List α) (h : l.length = 7) : ∃ a b c d e f g, l = [a, b, c, d, e, f, g] := by
  match l, h with
  | [a, b, c, d, e, f, g], _ => exact ⟨a, b, c, d, e, f, g, rfl⟩
theorem wf_u64' {n : Int} (h : (Lit.int .u64 n).wf = true) : 0 ≤ n ∧ n < 18446744073709551616 := by
  simp [Lit.wf, IntKind.min, IntKind.max, IntKind.signed, IntKind.bits] at h
  omega
theorem wf_i64' {n : Int} (h : (Lit.int .i64 n).wf = true) : -9223372036854775808 ≤ n ∧ n ≤ 9223372036854775807 := by
  simp [Lit.wf, IntKind.min, IntKind.max, IntKind.signed, IntKind.bits] at h
  omega
theorem addI_add (x : Addr) (a b : Nat) : (x.add a).add b = x.add (a + b) := by
  unfold Addr.add
  by_cases h1 : a = 0 <;> by_cases h2 : b = 0 <;> simp [h1, h2, Nat.add_assoc]
section
variable {H : Type} {enc : TypeId × Value → H} {w : World} {base : Nat} {spare : Nat → Bool} {held : Bool}
theorem open_clsI {n : Nat} {c0 c1 c2 c3 : Value} {x : DataW H × List MemPlace} (h : DataW.trod enc Tryd.prog w base spare held n 41 [c0, c1, c2, c3] = some x) : ∃ p0 p1 p2 p3 : Nat, IsC [p0, p1, p2, p3] ∧ c0 = .int .u64 (p0 : Int) ∧ c1 = .int .u64 (p1 : Int) ∧ c2 = .int .u64 (p2 : Int) ∧ c3 = .int .u64 (p3 : Int) := by
  obtain ⟨xs, m, _, _, _, hxl, hel⟩ := DataW.trod_array Tryd.underlying41 h
  have hce : Tryd.prog.cellsOf 39 = 1 := by kernel_rfl
  have hw : ∀ j (v : Value), j < 4 → [c0, c1, c2, c3][j]? = some v → ∃ z : Nat, v = .int .u64 (z : Int) ∧ z < 18446744073709551616 := by
    intro j v hj hv
    have h1 := hel j hj
    have hxj : xs[j]? = some xs[j] := List.getElem?_eq_getElem (by omega)
    rw [hxj, hce, Nat.mul_one] at h1
    obtain ⟨z, e1, _, wz⟩ := DataW.trod_int Tryd.underlying39 h1
    obtain ⟨b1, b2⟩ := wf_u64' wz
    have hj' : j < [c0, c1, c2, c3].length := hj
    rw [List.drop_eq_getElem_cons hj', List.take_succ_cons, List.take_zero] at e1
    simp only [List.cons.injEq, and_true] at e1
    rw [List.getElem?_eq_getElem hj', e1, Option.some.injEq] at hv
    exact ⟨z.toNat, by rw [← hv, Int.toNat_of_nonneg b1], by omega⟩
  obtain ⟨z0, k0, l0⟩ := hw 0 c0 (by omega) rfl
  obtain ⟨z1, k1, l1⟩ := hw 1 c1 (by omega) rfl
  obtain ⟨z2, k2, l2⟩ := hw 2 c2 (by omega) rfl
  obtain ⟨z3, k3, l3⟩ := hw 3 c3 (by omega) rfl
  refine ⟨z0, z1, z2, z3, ⟨rfl, fun i => ?_⟩, k0, k1, k2, k3⟩
  match i with
  | 0 => simpa using l0
  | 1 => simpa using l1
  | 2 => simpa using l2
  | 3 => simpa using l3
  | n + 4 => simp
theorem open_one {n : Nat} {cs : List Value} {x : DataW H × List MemPlace} (h : DataW.trod enc Tryd.prog w base spare held n TI cs = some x) : ∃ y : Ins, IsC y.set ∧ InR y ∧ cs = encI y := by
  obtain ⟨xs, m, _, _, hcl, hlen, hg⟩ := DataW.trod_struct Tryd.underlying43 h
  replace hcl : cs.length = 7 := hcl.trans (by kernel_rfl)
  obtain ⟨c0, c1, c2, c3, c4, c5, c6, rfl⟩ := len7 cs hcl
  have hce : Tryd.prog.cellsOf 38 = 1 := by kernel_rfl
  have hci : Tryd.prog.cellsOf 3 = 1 := by kernel_rfl
  have hcc : Tryd.prog.cellsOf 41 = 4 := by kernel_rfl
  replace hlen : xs.length = 4 := hlen
  have hxj : ∀ j (hj : j < 4), xs[j]? = some (xs[j]'(by omega)) := fun j hj => List.getElem?_eq_getElem (by omega)
  have h0 : DataW.trod enc Tryd.prog w base spare held m 38 (([c0, c1, c2, c3, c4, c5, c6].drop 0).take (Tryd.prog.cellsOf 38)) = xs[0]? := hg 0 _ rfl
  rw [hce, hxj 0 (by omega)] at h0
  change DataW.trod enc Tryd.prog w base spare held m 38 [c0] = _ at h0
  have h1 : DataW.trod enc Tryd.prog w base spare held m 41 (([c0, c1, c2, c3, c4, c5, c6].drop 1).take (Tryd.prog.cellsOf 41)) = xs[1]? := hg 1 _ rfl
  rw [hcc, hxj 1 (by omega)] at h1
  change DataW.trod enc Tryd.prog w base spare held m 41 [c1, c2, c3, c4] = _ at h1
  have h2 : DataW.trod enc Tryd.prog w base spare held m 3 (([c0, c1, c2, c3, c4, c5, c6].drop 5).take (Tryd.prog.cellsOf 3)) = xs[2]? := hg 2 _ rfl
  rw [hci, hxj 2 (by omega)] at h2
  change DataW.trod enc Tryd.prog w base spare held m 3 [c5] = _ at h2
  have h3 : DataW.trod enc Tryd.prog w base spare held m 3 (([c0, c1, c2, c3, c4, c5, c6].drop 6).take (Tryd.prog.cellsOf 3)) = xs[3]? := hg 3 _ rfl
  rw [hci, hxj 3 (by omega)] at h3
  change DataW.trod enc Tryd.prog w base spare held m 3 [c6] = _ at h3
  obtain ⟨z0, e0, _, w0⟩ := DataW.trod_int Tryd.underlying38 h0
  obtain ⟨p0, p1, p2, p3, hC, rfl, rfl, rfl, rfl⟩ := open_clsI h1
  obtain ⟨z5, e5, _, w5⟩ := DataW.trod_int Tryd.underlying3 h2
  obtain ⟨z6, e6, _, w6⟩ := DataW.trod_int Tryd.underlying3 h3
  simp only [List.cons.injEq, and_true] at e0 e5 e6
  subst e0 e5 e6
  exact ⟨⟨z0, [p0, p1, p2, p3], z5, z6⟩, hC, ⟨bounds_i8 w0, wf_i64' w5, wf_i64' w6⟩, rfl⟩
theorem bytesI : Tryd.prog.bytesOf TI = 56 := by kernel_rfl
theorem slice_shapeI {n : Nat} {c : Value} {y : DataW H × List MemPlace} (h : DataW.trod enc Tryd.prog w base spare held n 22 [c] = some y) : ∃ a l k, c = .slice a l k := by
  rcases Go.Deep.open_slice Tryd.underlying22 h with ⟨hcs, _⟩ | ⟨x, l, k, _, _, _, _, hcs, _⟩
  · simp only [List.cons.injEq, and_true] at hcs
    exact ⟨_, _, _, hcs⟩
  · simp only [List.cons.injEq, and_true] at hcs
    exact ⟨_, _, _, hcs⟩
theorem open_ins {K : Nat} {a : Option Addr} {len cap : Nat} {d : DataW H} {p : List MemPlace} (h : DataW.Trod enc Tryd.prog w base spare held 22 (.slice a len cap) d p) (hsz : ∀ elems sp, d = .slice elems sp → elems.length + sp.length ≤ K) : ∃ M : List Ins, MI w a len cap M ∧ (∀ x ∈ M, InR x) ∧ len ≤ K := by
  obtain ⟨fuel, hf⟩ := h
  rcases Go.Deep.open_slice Tryd.underlying22 hf with ⟨hcs, _⟩ | ⟨x, l, c, m, n, D, Pl, hcs, _, hl, hm, hmm, hx, hi⟩
  · simp [Value.cells] at hcs
    obtain ⟨rfl, rfl, rfl⟩ := hcs
    exact ⟨[], ⟨fun _ h => absurd h List.not_mem_nil, rfl, Nat.le_refl _, fun _ => rfl, .inl rfl⟩, fun _ h => absurd h List.not_mem_nil, Nat.zero_le _⟩
  · simp [Value.cells] at hcs
    obtain ⟨rfl, rfl, rfl⟩ := hcs
    have hbd : len ≤ K := by
      have := hsz _ _ (Prod.mk.inj hx).1
      simp at this
      omega
    have hce : Tryd.prog.cellsOf TI = 7 := by kernel_rfl
    have hlen : len ≤ m := by rw [hmm]; split <;> omega
    have hone : ∀ i, ∃ y : Ins, i < len → IsC y.set ∧ InR y ∧ ∀ c, c < 7 → w.cell? (x.add (i * 7 + c)) = (encI y)[c]? := by
      intro i
      by_cases hil : i < len
      · obtain ⟨cs', hc, ht'⟩ := hi i (by omega)
        rw [hce] at hc
        obtain ⟨_, hcl, hat⟩ := World.cells?_some hc
        obtain ⟨y, h1, h2, rfl⟩ := open_one ht'
        refine ⟨y, fun _ => ⟨h1, h2, fun c hc7 => ?_⟩⟩
        have hat1 := hat c hc7
        rw [addI_add] at hat1
        exact hat1
      · exact ⟨⟨0, [], 0, 0⟩, fun h => absurd h hil⟩
    obtain ⟨F, hF⟩ := Classical.axiomOfChoice hone
    have hget : ∀ i y, ((List.range len).map F)[i]? = some y → i < len ∧ y = F i := by
      intro i y h
      rw [List.getElem?_map] at h
      by_cases hil : i < len
      · rw [List.getElem?_range hil] at h
        exact ⟨hil, (by simpa using h.symm)⟩
      · rw [List.getElem?_eq_none (by simpa using hil)] at h
        cases h
    have hmem : ∀ y ∈ (List.range len).map F, ∃ i, i < len ∧ y = F i := by
      intro y hy
      obtain ⟨i, h⟩ := List.getElem?_of_mem hy
      exact ⟨i, hget i y h⟩
    refine ⟨(List.range len).map F, ⟨fun y hy => ?_, by simp, hl, fun h => (by cases h), ?_⟩, fun y hy => ?_, hbd⟩
    · obtain ⟨i, h1, rfl⟩ := hmem y hy
      exact (hF i h1).1
    · by_cases h0 : len = 0
      · subst h0; exact .inl rfl
      · obtain ⟨b, off, spot⟩ := x
        have hc0 := (hF 0 (by omega)).2.2 0 (by omega)
        have he0 : (encI (F 0))[0]? = some ((encI (F 0))[0]'(by show 0 < 7; omega)) := List.getElem?_eq_getElem _
        rw [he0] at hc0
        have hspot : spot = none := by simpa [Addr.add] using World.cell?_spot hc0
        subst hspot
        refine .inr ⟨b, off, rfl, fun i y hy c hc7 => ?_⟩
        obtain ⟨hil, rfl⟩ := hget i y hy
        have g1 := (hF i hil).2.2 c hc7
        rw [show (⟨b, off, none⟩ : Addr).add (i * 7 + c) = ⟨b, off + i * 7 + c, none⟩ by rw [Nat.add_assoc]; simp [Addr.add]] at g1
        exact g1
    · obtain ⟨i, h1, rfl⟩ := hmem y hy
      exact (hF i h1).2.1
end
end Go.Proofs.YtfmcjmkdlldlhaaDoor
