/-
  class.Atoms: the atoms of classes, in the order of their least bytes.
-/
import Derived.Test.YtakimaceohfpcaaAtomsM
namespace Go.Proofs.Ytakimaceohfpcaa
open Go.RowKit

/-- The slice value v reads, in w, as the classes cs. -/
def CC (w : World) (v : Value) (cs : List Cl) : Prop :=
  ∃ a cap, v = .slice a cs.length cap ∧ (cs = [] ∨ ∃ b off, a = some ⟨b, off, none⟩ ∧ ∀ (i : Nat) (h : i < cs.length) (c : Nat), c < 4 → w.cell? ⟨b, off + i * 4 + c, none⟩ = (encC cs[i])[c]?)
theorem CC.below {w w' : World} {v : Value} {cs : List Cl} (h : CC w v cs) (hb : Below w.heap.size w w') : CC w' v cs := by
  obtain ⟨a, cap, rfl, h2⟩ := h
  refine ⟨a, cap, rfl, ?_⟩
  rcases h2 with h2 | ⟨b, off, ha, hc⟩
  · exact .inl h2
  · refine .inr ⟨b, off, ha, fun i hi c hc4 => ?_⟩
    have h1 := hc i hi c hc4
    rw [List.getElem?_eq_getElem (by rw [encC_len]; exact hc4)] at h1 ⊢
    rw [hb.cell (World.block_lt_of_cell? w _ h1)]; exact h1
theorem CC.len {w : World} {a : Option Addr} {n c : Nat} {cs : List Cl} (h : CC w (.slice a n c) cs) : cs.length = n := by
  obtain ⟨_, _, he, _⟩ := h
  simp only [Value.slice.injEq] at he
  exact he.2.1.symm
theorem CC.words {w : World} {a : Option Addr} {n cp : Nat} {cs : List Cl} (h : CC w (.slice a n cp) cs) (k : Nat) (hk : k < cs.length) : ∃ b o, a = some ⟨b, o, none⟩ ∧ ∀ p0 p1 p2 p3, cs[k].1 = [p0, p1, p2, p3] →
    w.cell? ⟨b, o + k * 4, none⟩ = some (.int .u64 (p0 : Int)) ∧ w.cell? ⟨b, o + k * 4 + 1, none⟩ = some (.int .u64 (p1 : Int)) ∧ w.cell? ⟨b, o + k * 4 + 2, none⟩ = some (.int .u64 (p2 : Int)) ∧ w.cell? ⟨b, o + k * 4 + 3, none⟩ = some (.int .u64 (p3 : Int)) := by
  obtain ⟨_, _, he, h2⟩ := h
  simp only [Value.slice.injEq] at he
  obtain ⟨rfl, rfl, rfl⟩ := he
  rcases h2 with rfl | ⟨b, o, rfl, hc⟩
  · exact absurd hk (Nat.not_lt_zero _)
  · refine ⟨b, o, rfl, fun p0 p1 p2 p3 e => ?_⟩
    have hx := cells_of cs[k] e
    have h1 := hc k hk
    rw [hx] at h1
    exact ⟨h1 0 (by omega), h1 1 (by omega), h1 2 (by omega), h1 3 (by omega)⟩
theorem OwnCs.cc {w : World} {base : Nat} {v : Value} {cs : List Cl} (h : OwnCs w base v cs) : CC w v cs := by
  rcases h.2 with ⟨rfl, hn⟩ | ⟨g, cap, cur, rfl, _, _, _⟩
  · exact ⟨none, 0, by rw [hn], .inl (List.eq_nil_of_length_eq_zero hn)⟩
  · refine ⟨_, cap, rfl, .inr ⟨g, 0, rfl, fun i hi c hc => ?_⟩⟩
    rw [Nat.zero_add, World.ownsRow.cellAt h (i * 4 + c) (by omega), cellsC_get cs i c hc, List.getElem?_eq_getElem hi]
    rfl

def AtomsInv (w : World) (cs : List Cl) (v3 v10 : Value) (wr : World) : Prop :=
  ∃ k : Nat, k ≤ cs.length ∧ v10 = .int .i64 k ∧ OwnCs wr w.heap.size v3 (foldL (cs.take k)) ∧ Below w.heap.size w wr
def AtomsPost (w : World) (cs : List Cl) (e : Ending) (w' : World) : Prop :=
  ∃ v ts, e = .returned v ∧ ts.Perm (foldL cs) ∧ RiseC ts ∧ OwnCs w' w.heap.size v ts ∧ Below w.heap.size w w'

set_option maxHeartbeats 4000000 in
set_option maxRecDepth 100000 in
theorem atoms_any (w : World) (v : Value) (cs : List Cl) (h : CC w v cs) (hl : cs.length ≤ 4398046511104) : Calls Try.prog 20 #[v] w (AtomsPost w cs) := by
  obtain ⟨a0, c0, rfl, -⟩ := id h
  obtain ⟨n, hn⟩ : ∃ n, cs.length = n := ⟨_, rfl⟩
  have HN := Lib.hid hn
  rw [hn] at h hl ⊢
  clear hn
  obtain ⟨x0, x1, x2, x3, hx⟩ := isC_words allC.1 allC.2
  have hrx : row64 (rangeL 0 255) = #[.int .u64 (x0 : Int), .int .u64 (x1 : Int), .int .u64 (x2 : Int), .int .u64 (x3 : Int)] := by
    have : row64 allC.1 = _ := congrArg row64 hx
    exact this
  have hra := range_any w 0 255 (by omega) (by omega)
  rw [hrx] at hra
  have HRA := Lib.hid hra
  have HX := Lib.hid hx
  clear hx hrx hra
  go_enter Try.func20, Try.ntmps20
  go_wp2_with fail
  refine HRA.out.mono ?_
  rintro e w1 ⟨rfl, hb1⟩
  have hstart : AtomsInv w cs (.slice (some ⟨w1.heap.size, 0, none⟩) 1 1) (.int .i64 0) (w1.alloc (.cells #[.int .u64 (x0 : Int), .int .u64 (x1 : Int), .int .u64 (x2 : Int), .int .u64 (x3 : Int)] 24)) := by
    refine ⟨0, by omega, rfl, ?_, hb1.alloc hb1.size _⟩
    have e : cellsC [allC] = [.int .u64 (x0 : Int), .int .u64 (x1 : Int), .int .u64 (x2 : Int), .int .u64 (x3 : Int)] := by unfold cellsC; rw [List.flatMap_cons, cells_of allC HX.out]; rfl
    show OwnCs _ _ _ [allC]
    unfold OwnCs
    rw [e]
    exact World.ownsRow_lit w1 _ 1 hb1.size (by decide) rfl
  have HS := Lib.hid hstart
  clear hstart HRA
  go_wp2_with fail
  go_loopw [3, 10] (fun v3 v10 wr => AtomsInv w cs v3 v10 wr) (fun _ i _ => n - (intOf i).toNat)
  case atStart => exact HS.out
  case round =>
    obtain ⟨k, hk, rfl, ho, rb⟩ := hrel
    rw [HN.out] at hk
    have hpt := part_fold (cs.take k)
    have hfew := hpt.few
    have hpos := hpt.pos
    obtain ⟨g, cap, rfl⟩ : ∃ g cap, u3 = .slice (some ⟨g, 0, none⟩) (foldL (cs.take k)).length cap := by
      rcases ho.2 with ⟨_, h0⟩ | ⟨g, cap, _, e, _⟩
      · omega
      · exact ⟨g, cap, e⟩
    clear HS
    by_cases hlt : k < n
    · have hkl : k < cs.length := by rw [HN.out]; exact hlt
      have hst := foldL_take cs k hkl
      obtain ⟨b, o, rfl, hw⟩ := (h.below rb).words k hkl
      generalize cs[k] = c at hst hw
      obtain ⟨p0, p1, p2, p3, hp⟩ := isC_words c.1 c.2
      obtain ⟨k0, k1, k2, k3⟩ := hw p0 p1 p2 p3 hp
      have hrp : row64 c.1 = #[.int .u64 (p0 : Int), .int .u64 (p1 : Int), .int .u64 (p2 : Int), .int .u64 (p3 : Int)] := by rw [hp]; rfl
      have HST := Lib.hid hst
      have hbs := rb.size
      have hb2 := (Below.refl wr.heap.size wr).alloc (Nat.le_refl _) (.cells #[.int .u64 (p0 : Int), .int .u64 (p1 : Int), .int .u64 (p2 : Int), .int .u64 (p3 : Int)] 24)
      have hsp := split_any _ _ g cap _ c (ho.below hb2) (by omega)
      rw [hrp] at hsp
      have HSP := Lib.hid hsp
      have rb2 := rb.trans (hb2.mono hbs)
      obtain ⟨m, hm⟩ : ∃ m, (foldL (cs.take k)).length = m := ⟨_, rfl⟩
      rw [hm] at HSP ⊢
      clear hw hp hrp hst hsp hb2 ho hpt hm hfew hpos
      go_wp2_with fail
      refine HSP.out.mono ?_
      rintro e w9 ⟨v9, rfl, ho9, hb9⟩
      have rb9 := rb2.trans (hb9.mono rb2.size)
      have ho9 := ho9.mono rb2.size
      rw [← HST.out] at ho9
      have HO9 := Lib.hid ho9
      clear HSP ho9 hb9 k0 k1 k2 k3 rb rb2
      go_wp2_with fail
      go_roundw
      case rel => exact ⟨k + 1, by rw [HN.out]; omega, by go_num, HO9.out, rb9⟩
      case measure => simp [intOf]; omega
    · have e : cs.take k = cs := List.take_of_length_le (by rw [HN.out]; omega)
      rw [e] at ho ⊢
      have HSO := Lib.hid (sortOwn wr _ g cap (foldL cs) ho (by rw [e] at hfew; omega))
      clear e ho hpt hfew hpos
      obtain ⟨m, hm⟩ : ∃ m, (foldL cs).length = m := ⟨_, rfl⟩
      unfold SortPost at HSO
      rw [hm] at HSO ⊢
      clear hm
      go_wp2_with fail
      refine HSO.out.mono ?_
      rintro e w9 ⟨rfl, ts, hperm, hrise, ho9, hb9⟩
      have HO := Lib.hid (show AtomsPost w cs (.returned _) w9 from ⟨_, ts, rfl, hperm, hrise, ho9, rb.trans hb9⟩)
      clear ho9 hb9 HSO hperm hrise
      go_wp2_with fail
      go_ret
      exact HO.out
end Go.Proofs.Ytakimaceohfpcaa
