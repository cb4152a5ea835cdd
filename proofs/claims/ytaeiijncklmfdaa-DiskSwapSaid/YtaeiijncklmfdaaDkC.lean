/-
  Layer 3: the disk's small calls: names, what is asked first, a try.
-/
import Derived.Test.YtaeiijncklmfdaaDkR
import Derived.Test.YtaeiijncklmfdaaStr
import Derived.Test.YtaeiijncklmfdaaShelf
namespace Go.Proofs.Ytaeiijncklmfdaa
open Go.RowKit

def barB : List UInt8 := [0, 10, 47]
def nmOk (k : ByteArray) : Bool := decide (1 ≤ k.size) && decide (k.size ≤ 64) && !Lib.containsAny k.data.toList barB
/-- What isName says of that name. -/
def IsNm (k : ByteArray) : Prop := ∀ w : World, Calls Try.prog 62 #[.string k] w fun e w' => e = .returned (.bool (nmOk k)) ∧ Below w.heap.size w w'
def Asc (k : ByteArray) : Prop := ∀ (j : Nat) b, k.data.toList[j]? = some b → b.toNat < 128
theorem bar_asc : ∀ (j : Nat) b, (⟨#[0, 10, 47]⟩ : ByteArray).data.toList[j]? = some b → b.toNat < 128 := by
  intro j b h
  match j, h with
  | 0, h => simp at h; subst h; decide
  | 1, h => simp at h; subst h; decide
  | 2, h => simp at h; subst h; decide
  | j + 3, h => simp at h
theorem isName_asc (k : ByteArray) (ha : Asc k) : IsNm k := by
  intro w
  unfold nmOk
  have hc := fun (h : k.size ≤ 64) => Try.strings_ContainsAny_laid k ⟨#[0, 10, 47]⟩ w (by omega) (by decide) ha bar_asc
  by_cases h1 : 1 ≤ k.size
  · by_cases h2 : k.size ≤ 64
    · have HC := Lib.hid (hc h2)
      clear hc
      go_enter Try.func62, Try.ntmps62
      go_wp2_with fail
      refine HC.out.mono ?_
      rintro e w' ⟨rfl, hb⟩
      go_wp2_with fail
      go_ret
      refine ⟨?_, hb⟩
      rw [decide_eq_true h1, decide_eq_true h2]
      rfl
    · clear hc
      go_enter Try.func62, Try.ntmps62
      go_wp2_with fail
      go_ret
      exact ⟨rfl, Below.refl _ _⟩
  · clear hc
    go_enter Try.func62, Try.ntmps62
    go_wp2_with fail
    go_ret
    exact ⟨rfl, Below.refl _ _⟩

theorem own_shp {w : World} {base s n : Nat} {e : TypeId} {v : Value} {xs : List Value} (h : w.ownsRow base e s v n xs) : ∃ a c, v = .slice a n c ∧ n ≤ c ∧ (a = none → c = 0) := by
  rcases h.2 with ⟨rfl, hn⟩ | ⟨g, cap, cur, rfl, _, _, hc, _⟩
  · exact ⟨none, 0, by rw [hn], by omega, fun _ => rfl⟩
  · exact ⟨_, cap, rfl, hc, fun e => by cases e⟩
def ptD (d : Nat) : Value := .pointer (some ⟨d, 0, none⟩)
theorem DkAt.cell {w : World} {base d : Nat} {s : DkS} {c : Nat → Nat} {fo du : Nat} {pe pl : Value} {bv : Nat → Value} (h : DkAt w base d s c fo du pe pl bv) :
    w.cell? ⟨d, 0, none⟩ = some (.int .i64 s.room) ∧ w.cell? ⟨d, 1, none⟩ = some (.bool s.power) ∧ w.cell? ⟨d, 2, none⟩ = some (.map (some fo)) ∧ w.cell? ⟨d, 3, none⟩ = some (.map (some du)) ∧ w.cell? ⟨d, 4, none⟩ = some pe ∧
    w.cell? ⟨d, 5, none⟩ = some pl ∧ w.cell? ⟨d, 6, none⟩ = some (.int .i64 s.tries) ∧ w.cell? ⟨d, 7, none⟩ = some (.int .i64 s.done) ∧ w.cell? ⟨d, 8, none⟩ = some (.bool true) := by
  have := fun i => cell_of_row w d i _ _ _ h.disk
  refine ⟨?_, ?_, ?_, ?_, ?_, ?_, ?_, ?_, ?_⟩ <;> (rw [this]; rfl)
section
variable (w : World) {base d : Nat} {s : DkS} {c : Nat → Nat} {fo du : Nat} {pe pl : Value} {bv : Nat → Value}
theorem isDisk_yes (h : DkAt w base d s c fo du pe pl bv) : Calls Try.prog 53 #[ptD d] w fun e w' => e = .returned (.bool true) ∧ w' = w := by
  obtain ⟨-, -, -, -, -, -, -, -, h8⟩ := h.cell
  unfold ptD
  clear h
  go_enter Try.func53, Try.ntmps53
  go_wp2_with fail
  go_ret
  exact ⟨rfl, rfl⟩
theorem power_yes (h : DkAt w base d s c fo du pe pl bv) : Calls Try.prog 15 #[ptD d] w fun e w' => e = .returned (.bool s.power) ∧ w' = w := by
  have H := Lib.hid (isDisk_yes w h)
  obtain ⟨-, h1, -⟩ := h.cell
  generalize s.power = b at h1 ⊢
  unfold ptD at H ⊢
  clear h
  go_enter Try.func15, Try.ntmps15
  go_wp2_with fail
  refine H.out.mono ?_
  rintro e w' ⟨rfl, rfl⟩
  go_wp2_with fail
  go_ret
  exact ⟨rfl, rfl⟩
theorem pending_yes (h : DkAt w base d s c fo du pe pl bv) : Calls Try.prog 16 #[ptD d] w fun e w' => e = .returned (.int .i64 s.pending.length) ∧ w' = w := by
  have H := Lib.hid (isDisk_yes w h)
  obtain ⟨-, -, -, -, h4, -⟩ := h.cell
  obtain ⟨a0, c0, hv, -⟩ := own_shp h.pend
  subst hv
  unfold ptD at H ⊢
  clear h
  go_enter Try.func16, Try.ntmps16
  go_wp2_with fail
  refine H.out.mono ?_
  rintro e w' ⟨rfl, rfl⟩
  go_wp2_with fail
  go_ret
  exact ⟨rfl, rfl⟩
theorem done_yes (h : DkAt w base d s c fo du pe pl bv) : Calls Try.prog 17 #[ptD d] w fun e w' => e = .returned (.int .i64 s.done) ∧ w' = w := by
  have H := Lib.hid (isDisk_yes w h)
  obtain ⟨-, -, -, -, -, -, -, h7, -⟩ := h.cell
  unfold ptD at H ⊢
  clear h
  go_enter Try.func17, Try.ntmps17
  go_wp2_with fail
  refine H.out.mono ?_
  rintro e w' ⟨rfl, rfl⟩
  go_wp2_with fail
  go_ret
  exact ⟨rfl, rfl⟩
def admitM (s : DkS) (l : List ByteArray) : Int := if s.power = false then 24 else if l.any (fun k => !nmOk k) then 20 else 0
theorem any_take {k : Nat} (l : List ByteArray) (hk : k < l.length) (h : (l.take k).any (fun k => !nmOk k) = false) (b : Bool) (hb : nmOk (l[k]?.getD ByteArray.empty) = b) : (l.take (k + 1)).any (fun k => !nmOk k) = !b := by
  rw [List.take_succ_eq_append_getElem hk, List.any_append, h]
  rw [List.getElem?_eq_getElem hk] at hb
  simp at hb ⊢
  rw [hb]
theorem any_of_take {k : Nat} (l : List ByteArray) (h : (l.take k).any (fun k => !nmOk k) = true) : l.any (fun k => !nmOk k) = true := by
  rw [List.any_eq_true] at h ⊢
  obtain ⟨x, hx, h⟩ := h
  exact ⟨x, List.mem_of_mem_take hx, h⟩
set_option maxRecDepth 100000 in
theorem admit_yes (h : DkAt w base d s c fo du pe pl bv) (v : Value) (l : List ByteArray) (hv : TS w v l) (hn : ∀ k ∈ l, IsNm k) :
    Calls Try.prog 60 #[ptD d, v] w fun e w' => e = .returned (.int .i64 (admitM s l)) ∧ Below w.heap.size w w' := by
  have H := Lib.hid (isDisk_yes w h)
  obtain ⟨-, h1, -⟩ := h.cell
  unfold admitM
  obtain ⟨a0, c0, he⟩ : ∃ a0 c0, v = .slice a0 l.length c0 := by obtain ⟨a, c, e, _⟩ := hv; exact ⟨a, c, e⟩
  subst he
  have hl := hv.len.2.1
  have HV := Lib.hid hv
  have HN := Lib.hid hn
  clear h hv hn
  unfold ptD at H ⊢
  cases hp : s.power
  · rw [hp] at h1
    go_enter Try.func60, Try.ntmps60
    go_wp2_with fail
    refine H.out.mono ?_
    rintro e w' ⟨rfl, rfl⟩
    go_wp2_with fail
    go_ret
    exact ⟨rfl, Below.refl _ _⟩
  · rw [hp] at h1
    obtain ⟨R, hR⟩ : ∃ R : Int, (if (true : Bool) = false then (24 : Int) else if l.any (fun k => !nmOk k) then 20 else 0) = R := ⟨_, rfl⟩
    rw [hR]
    have HR := Lib.hid hR
    clear hR
    go_enter Try.func60, Try.ntmps60
    go_wp2_with fail
    refine H.out.mono ?_
    rintro e w' ⟨rfl, rfl⟩
    go_wp2_with fail
    go_loopw [18] (fun x wr => Below w'.heap.size w' wr ∧ ∃ k : Nat, x = .int .i64 k ∧ k ≤ l.length ∧ (l.take k).any (fun k => !nmOk k) = false) (fun x _ => l.length - (intOf x).toNat)
    case atStart => exact ⟨Below.refl _ _, 0, rfl, Nat.zero_le _, rfl⟩
    case round =>
      obtain ⟨hb, k, rfl, hk, hall⟩ := hrel
      have HALL := Lib.hid hall
      have HB := Lib.hid hb
      clear hall hb
      by_cases hkn : k = l.length
      · have hkd : decide (k < l.length) = false := by simp; omega
        have HKN := Lib.hid hkn
        clear hkn
        go_wp2_with fail
        go_ret
        refine ⟨?_, HB.out⟩
        rw [← HR.out, show l.any (fun k => !nmOk k) = false by have := HALL.out; rw [HKN.out, List.take_length] at this; exact this]
        rfl
      · have hkd : decide (k < l.length) = true := by simp; omega
        have hkl : k < l.length := by omega
        obtain ⟨b, o, ha, hr⟩ := (HV.out.below HB.out).read k hkl
        subst ha
        have hc := hr k hkl
        have hN := HN.out (l[k]?.getD ByteArray.empty) (by rw [List.getElem?_eq_getElem hkl]; exact List.getElem_mem _)
        have hT := any_take l hkl HALL.out
        have hO := any_of_take (k := k + 1) l
        obtain ⟨x, hx⟩ : ∃ x, l[k]?.getD ByteArray.empty = x := ⟨_, rfl⟩
        rw [hx] at hc hN hT
        have HT := Lib.hid hT
        have HO := Lib.hid hO
        clear hr hx hkn hT hO
        go_wp2_with fail
        refine (hN _).mono ?_
        rintro e w2 ⟨rfl, hb2⟩
        have HB2 := Lib.hid (HB.out.trans (hb2.mono HB.out.size))
        clear hb2 hN
        cases hnm : nmOk x
        · go_wp2_with fail
          go_ret
          refine ⟨?_, HB2.out⟩
          rw [← HR.out, HO.out (HT.out _ hnm)]
          rfl
        · go_wp2_with fail
          go_roundw
          case rel => exact ⟨HB2.out, k + 1, by simp, by omega, HT.out _ hnm⟩
          case measure => simp [intOf]; omega
end
end Go.Proofs.Ytaeiijncklmfdaa
