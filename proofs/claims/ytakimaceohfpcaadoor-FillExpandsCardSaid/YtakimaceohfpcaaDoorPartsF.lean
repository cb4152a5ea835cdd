/-
  galleylaw16.FillParts: slices of pieces, cut; what the walk needs.
-/
import Derived.Test.YtakimaceohfpcaaDoorWorks16
import Derived.Test.YtakimaceohfpcaaDoorEq
namespace Go.Proofs.YtakimaceohfpcaaDoor
open Go.RowKit

theorem sizePc (w : World) : (sizeOf (Tryd.prog.elem 86)).run Tryd.prog w = .ok 2 w := by kernel_rfl
theorem elemPc : Tryd.prog.underlying 86 = some (.slice (Tryd.prog.elem 86)) := by kernel_rfl

theorem getG_cut {α : Type} (l : List α) (d : α) (lo n i : Nat) (h : i < n) : ((l.drop lo).take n)[i]?.getD d = l[lo + i]?.getD d := by
  rw [List.getElem?_take_of_lt h, List.getElem?_drop]

/-- p[lo:hi] reads as the cut list. -/
theorem PS.cut {w : World} {ad : Option Addr} {n cap : Nat} {p : List Pc} (h : PS w (.slice ad n cap) p) (lo hi : Nat) (h1 : lo ≤ hi) (h2 : hi ≤ n) :
    ∃ ad', sliced ad lo hi cap 2 = .slice ad' (hi - lo) (cap - lo) ∧ PS w (.slice ad' (hi - lo) (cap - lo)) ((p.drop lo).take (hi - lo)) := by
  obtain ⟨hI, ad0, cap0, he, hl, hc, hN, hcell⟩ := h
  simp only [Value.slice.injEq] at he
  obtain ⟨rfl, rfl, rfl⟩ := he
  have hlen : ((p.drop lo).take (hi - lo)).length = hi - lo := by rw [List.length_take, List.length_drop]; omega
  refine ⟨if cap = lo then ad else ad.map (·.add (lo * 2)), rfl, fun i => ?_, _, _, by rw [hlen], by omega, by omega, fun h0 => ?_, ?_⟩
  · by_cases hi' : i < hi - lo
    · rw [getG_cut _ _ _ _ _ hi']; exact hI _
    · rw [List.getElem?_eq_none (by omega)]; simp [IsI]
  · split at h0
    · rename_i hcl; omega
    · have : ad = none := by cases ad <;> simp_all
      have := hN this; omega
  · by_cases h0 : hi - lo = 0
    · left; exact List.eq_nil_of_length_eq_zero (by omega)
    · rcases hcell with rfl | ⟨b, o, rfl, hcell⟩
      · simp at h2; omega
      · right
        refine ⟨b, o + lo * 2, ?_, fun i hi' => ?_⟩
        · rw [if_neg (by omega)]; simp [Addr.add]
        · rw [hlen] at hi'
          have := hcell (lo + i) (by omega)
          rw [getG_cut _ _ _ _ _ hi', show o + lo * 2 + i * 2 = o + (lo + i) * 2 by omega]
          exact this

theorem sliceP_h (ad : Option Addr) (n cap hi : Nat) (v : Value) (h2 : hi ≤ n) (hc : n ≤ cap) (hv : sliced ad 0 hi cap 2 = v) (W : World) :
    (Instr.slice 86 (.slice ad n cap) none (some (.int .i64 hi)) none).run Tryd.prog W = .ok v W := by
  rw [run_slice_h W 86 ad n cap elemPc .i64 hi (by omega) (by omega), sizePc]
  subst hv
  rfl
theorem sliceP_l (ad : Option Addr) (n cap lo : Nat) (v : Value) (h2 : lo ≤ n) (hv : sliced ad lo n cap 2 = v) (W : World) :
    (Instr.slice 86 (.slice ad n cap) (some (.int .i64 lo)) none none).run Tryd.prog W = .ok v W := by
  rw [run_slice_l W 86 ad n cap elemPc .i64 lo (by omega) (by omega), sizePc]
  subst hv
  rfl
theorem sliceP_lh (ad : Option Addr) (n cap lo hi : Nat) (v : Value) (h1 : lo ≤ hi) (h2 : hi ≤ n) (hc : n ≤ cap) (hv : sliced ad lo hi cap 2 = v) (W : World) :
    (Instr.slice 86 (.slice ad n cap) (some (.int .i64 lo)) (some (.int .i64 hi)) none).run Tryd.prog W = .ok v W := by
  rw [run_slice_lh W 86 ad n cap elemPc .i64 .i64 lo hi (by omega) (by omega) (by omega), sizePc]
  subst hv
  rfl
theorem sliceB_h (ad : Option Addr) (n cap hi : Nat) (v : Value) (h2 : hi ≤ n) (hc : n ≤ cap) (hv : sliced ad 0 hi cap 1 = v) (W : World) :
    (Instr.slice 48 (.slice ad n cap) none (some (.int .i64 hi)) none).run Tryd.prog W = .ok v W := by
  rw [run_slice_h W 48 ad n cap elemU8 .i64 hi (by omega) (by omega), sizeU8]
  subst hv
  rfl

/-- A list of bytes of the call's own, as a slice that is read. -/
theorem OwnB.got {w : World} {base : Nat} {v : Value} {l : List Int} (h : OwnB w base v l) (hB : IsB l) (hl : l.length ≤ 140737488351232) : ∃ a c, v = .slice a l.length c ∧ SB w (.slice a l.length c) l ∧ l.length ≤ c ∧ (a = none → c = 0) := by
  have hs := h.sb hB hl
  rcases h.2 with ⟨rfl, hn⟩ | ⟨g, cap, cur, rfl, _, hg, hnc, _⟩
  · rw [show l.length = 0 from hn]
    rw [show l.length = 0 from hn] at hl
    exact ⟨none, 0, rfl, hs, by omega, fun _ => rfl⟩
  · exact ⟨_, cap, rfl, hs, hnc, fun h => by cases h⟩

theorem isB_flat {α : Type} (p : List α) (f : α → List Int) (h : ∀ x ∈ p, IsB (f x)) : IsB (p.flatMap f) := by
  induction p with
  | nil => exact isB_nil
  | cons x p ih =>
    rw [List.flatMap_cons]
    exact isB_append _ _ (h x List.mem_cons_self) (ih fun y hy => h y (List.mem_cons_of_mem _ hy))
theorem isB_expand {w : World} {v : Value} {p : List Pc} (hp : PS w v p) {text : List Int} {l : List Sp} (ht : IsB text) : IsB (expandL p text l) := by
  refine isB_flat p _ fun x hx => ?_
  obtain ⟨k, hk, rfl⟩ := List.mem_iff_getElem.1 hx
  unfold pieceOf
  split
  · obtain ⟨_, a, cap, _, _, _, _, h4⟩ := hp
    rcases h4 with rfl | ⟨b, off, _, hc⟩
    · simp at hk
    · obtain ⟨_, _, _, _, _, hs, _⟩ := hc k hk
      have := hs.1
      simpa [hk] using this
  · exact isB_taken _ _ _ ht

theorem eqBytes_yes (w : World) (va vb : Value) (a : List Int) (ha : SB w va a) (hb : SB w vb a) :
    Calls Tryd.prog 35 #[va, vb] w fun e w' => e = .returned (.bool true) ∧ ∃ n, w' = w.drewN n := by
  have h := eqBytes_any w va vb a a ha hb
  rwa [decide_eq_true rfl] at h

/-- How many of the spans are good. -/
def goods (n : Nat) (l : List Sp) : Nat := l.countP (goodSp n)
theorem goods_snoc (n : Nat) (l : List Sp) (k : Nat) (h : k < l.length) : goods n (l.take (k + 1)) = goods n (l.take k) + if goodSp n (l[k]?.getD (-1, -1)) = true then 1 else 0 := by
  unfold goods
  rw [take_snocG l (-1, -1) k h, List.countP_append, List.countP_singleton]
theorem goods_le (n : Nat) (l : List Sp) : goods n l ≤ l.length := List.countP_le_length
theorem goods_all (n : Nat) (l : List Sp) (h : goods n l = l.length) : ∀ i : Nat, i < l.length → goodSp n (l[i]?.getD (-1, -1)) = true := by
  unfold goods at h
  rw [List.countP_eq_length] at h
  intro i hi
  have := h l[i] (List.getElem_mem hi)
  simpa [hi] using this
theorem cap_small (n : Nat) (h : n ≤ 1099511627776) : capN n = n := by unfold capN; omega
theorem cap_big (n : Nat) (h : ¬ (4194304 : Int) < (capN n : Nat)) : n ≤ 4194304 := by unfold capN at h; omega
theorem eqBytes_q (w : World) (va vb : Value) (a : List Int) (ha : SB w va a) (hb : SB w vb a) (q : Nat) :
    Calls Tryd.prog 35 #[va, vb] (w.drewN q) fun e w' => e = .returned (.bool true) ∧ ∃ m, w' = w.drewN m :=
  (eqBytes_yes (w.drewN q) va vb a (ha.drewN q) (hb.drewN q)).mono fun e w' ⟨h1, m, h2⟩ => ⟨h1, q + m, by rw [h2, World.drewN_drewN]⟩
theorem one_cut (p : List Pc) (k : Nat) (h : k < p.length) : (p.drop k).take (k + 1 - k) = [p[k]?.getD (0, [])] := by
  rw [drop_consG p (0, []) k h, show k + 1 - k = 1 by omega]
  rfl
theorem size_at (p : List Pc) (k : Nat) (h : k < p.length) (l : List Sp) : pieceSize l (p[k]?.getD (0, [])) ≤ sumL p l := by
  have h1 := sum_snoc p (0, []) k h l
  have h2 := sum_take_le p (k + 1) l
  omega
theorem taken_neg (g : Int) (text : List Int) (l : List Sp) (h : g < 0) : takenL g text l = [] := by unfold takenL; rw [if_neg (by omega)]
theorem taken_far (g : Nat) (text : List Int) (l : List Sp) (h : l.length ≤ g) : takenL g text l = [] := by
  unfold takenL
  rw [show ((g : Int).toNat) = g from rfl, List.getElem?_eq_none (by omega)]
  simp
theorem taken_at (g : Nat) (text : List Int) (l : List Sp) : takenL g text l = if 0 ≤ (l[g]?.getD (-1, -1)).1 ∧ (l[g]?.getD (-1, -1)).1 ≤ (l[g]?.getD (-1, -1)).2 ∧ (l[g]?.getD (-1, -1)).2 ≤ text.length then
      (text.drop (l[g]?.getD (-1, -1)).1.toNat).take ((l[g]?.getD (-1, -1)).2 - (l[g]?.getD (-1, -1)).1).toNat else [] := by
  unfold takenL
  rw [show ((g : Int).toNat) = g from rfl]
  simp
/-- One piece, at its place. -/
theorem PS.one {w : World} {b o n cap : Nat} {p : List Pc} (h : PS w (.slice (some ⟨b, o, none⟩) n cap) p) (m : Nat) (hm : m < n) : PS w (.slice (some ⟨b, o + m * 2, none⟩) 1 (cap - m)) [p[m]?.getD (0, [])] := by
  obtain ⟨hl, -, hc, -⟩ := h.len
  obtain ⟨ad', he, hs⟩ := h.cut m (m + 1) (by omega) hm
  rw [one_cut p m (by omega), show m + 1 - m = 1 by omega] at hs
  unfold sliced at he
  rw [if_neg (by omega)] at he
  have e : (⟨b, o, none⟩ : Addr).add (m * 2) = ⟨b, o + m * 2, none⟩ := by simp [Addr.add]
  simp only [Option.map_some, e, Value.slice.injEq] at he
  obtain ⟨rfl, -, -⟩ := he
  exact hs
end Go.Proofs.YtakimaceohfpcaaDoor
