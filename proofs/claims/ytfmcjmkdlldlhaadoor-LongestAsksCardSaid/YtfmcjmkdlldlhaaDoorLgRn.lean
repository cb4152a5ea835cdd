/-
  galleyref08.New.
-/
import Derived.Test.YtfmcjmkdlldlhaaDoorLgRs
import Derived.Test.YtfmcjmkdlldlhaaDoorLgI
namespace Go.Proofs.YtfmcjmkdlldlhaaDoor
open Go.RowKit
attribute [local go_sem] Oper.semAt_some

abbrev TRS : TypeId := 90
/-- A search of the document's. -/
def RSob (W : World) (base : Nat) (M : List Ins) (g : Nat) : Prop := ∃ v, At W g TRS [v, .bool true] ∧ base ≤ g ∧ W.ownsRow base TI 7 v M.length (cellsI M)
def RNew (W : World) (M : List Ins) (e : Ending) (W' : World) : Prop :=
  ∃ p er, e = .returned (.tuple #[.pointer p, .int .i64 er]) ∧ Below W.heap.size W W' ∧ ((shapedM M = false ∧ er = 49) ∨ (shapedM M = true ∧ er = 0 ∧ ∃ g, p = some ⟨g, 0, none⟩ ∧ RSob W' W.heap.size M g))
theorem rnew_any (W : World) (M : List Ins) (a : Option Addr) (n c : Nat) (h : MI W a n c M) (hR : ∀ x ∈ M, InR x) :
    Calls Tryd.prog 9 #[.slice a n c] W (RNew W M) := by
  have hsh := rshaped_any W M a n c h hR
  obtain ⟨i0, hi, hz0, hz1, hz2⟩ := info_parts infoI
  have hl := h.2.1
  have hN := h.2.2.2.1
  have H := Lib.hid h
  cases hs : shapedM M with
  | false =>
    rw [hs] at hsh
    have HS := Lib.hid hs
    clear h hs
    go_enter Tryd.func9, Tryd.ntmps9
    go_wp2_with fail
    refine hsh.mono ?_
    rintro e w1 ⟨rfl, hb⟩
    have HB := Lib.hid hb
    clear hb hsh
    go_wp2_with fail
    go_ret2
    exact ⟨none, 49, rfl, HB.out, .inl ⟨HS.out, rfl⟩⟩
  | true =>
    rw [hs] at hsh
    have HS := Lib.hid hs
    have hn5 : n ≤ 65540 := by have := (shp_of M hs).len; omega
    have hp1 : 0 < M.length := (shp_of M hs).good.pos
    cases a with
    | none =>
      have := H.out.2.2.1
      rw [hN rfl] at this
      omega
    | some ad =>
      clear hs hN
      have HL := Lib.hid hl
      clear hl
      go_enter Tryd.func9, Tryd.ntmps9
      go_wp2_with fail
      refine hsh.mono ?_
      rintro e w1 ⟨rfl, hb⟩
      have HB := Lib.hid hb
      have hm1 := H.out.below hb
      have HN := Lib.hid hm1.news
      have hml : (cellsI M).length = n * 7 := by rw [cellsI_len, HL.out]
      have HZ : Hid (w1.ownsRow W.heap.size TI 7 (.slice none 0 0) 0 []) := Lib.hid (World.ownsRow_nil _ _ _ _)
      have hbs := hb.size
      clear hb hm1 hsh h
      go_wp2_with (at_builtin; refine wpList_append_own_at _ rfl (.tmp 8) (.tmp 9) 22 rfl W.heap.size TI i0 (.agg #[.int .i8 0, .int .u64 0, .int .u64 0, .int .u64 0, .int .u64 0, .int .i64 0, .int .i64 0]) 7 56 Tryd.underlying22 hi hz0 hz1 hz2 rfl (by decide) _ 0 [] rfl HZ.out ad n c (cellsI M) rfl hml HN.out (cellsI_one M) (by unfold maxLen; omega) (by omega) hbs ?_)
      intro v' w2 hown hgrow _ _
      have HO : Hid (w2.ownsRow W.heap.size TI 7 v' M.length (cellsI M)) := Lib.hid (by
        rw [HL.out]
        simpa using hown)
      have HB2 := Lib.hid (HB.out.grown hgrow hbs (fun k h => by simp [Value.ownBlock] at h))
      obtain ⟨va, vc, hv⟩ := own_shape HO.out
      subst hv
      clear hown hgrow
      go_wp2_with fail
      go_ret2
      exact ⟨_, 0, rfl, HB2.out.alloc HB2.out.size _, .inr ⟨HS.out, rfl, _, rfl, _, At.new w2 TRS [_, .bool true], HB2.out.size, World.ownsRow.alloc HO.out _⟩⟩
end Go.Proofs.YtfmcjmkdlldlhaaDoor
