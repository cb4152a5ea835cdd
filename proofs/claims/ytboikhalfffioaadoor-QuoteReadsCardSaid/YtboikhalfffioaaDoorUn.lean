/-
  quote.Unshow, quote.Line.
-/
import Derived.Test.YtboikhalfffioaaDoorEi
import Derived.Test.YtboikhalfffioaaDoorWd
namespace Go.Proofs.YtboikhalfffioaaDoor
open Go.RowKit

/-- errNone's value. -/
def errV (b : Addr) : Value := .iface 172 (.pointer (some b))
/-- What Unshow hands back. -/
def UnPost (l : List UInt8) (w : World) (e : Ending) (w' : World) : Prop :=
  Below w.heap.size w w' ∧ ((readL l = none ∧ e = .returned (.tuple #[.slice none 0 0, .bool false])) ∨ ∃ b v, readL l = some b ∧ e = .returned (.tuple #[v, .bool true]) ∧ OwnB w' w.heap.size v (bI b))

set_option maxHeartbeats 1000000 in
set_option maxRecDepth 100000 in
theorem unshow_any (w : World) (b : Addr) (hw : ErrW w (errV b)) (s : ByteArray) (hb : s.size ≤ 8796093022000) : Calls Tryd.prog 10 #[.string s] w (UnPost s.data.toList w) := by
  have HRD := Lib.hid (read_any w (errV b) hw s hb)
  have HW := Lib.hid hw
  clear hw
  go_enter Tryd.func10, Tryd.ntmps10
  go_wp2_with (go_at_call 24; refine HRD.out.mono ?_)
  rintro e w1 ⟨b1, hr⟩
  have c0 := (HW.out.below b1).cell
  have HB := Lib.hid b1
  clear b1
  rcases hr with ⟨hn, rfl⟩ | ⟨bs, v, hs, rfl, ho⟩
  · have HN := Lib.hid hn
    clear hn
    unfold errV at c0 ⊢
    go_wp2_with (go_at_call 25; refine (errorsIs_same _ b).mono ?_)
    rintro e w2 ⟨rfl, rfl⟩
    go_wp2_with fail
    go_ret2
    exact ⟨HB.out, .inl ⟨HN.out, rfl⟩⟩
  · have HS := Lib.hid hs
    have HO := Lib.hid ho
    clear hs ho
    unfold errV at c0
    go_wp2_with (go_at_call 25; refine (errorsIs_nil _ b).mono ?_)
    rintro e w2 ⟨rfl, rfl⟩
    go_wp2_with fail
    go_ret2
    exact ⟨HB.out, .inr ⟨_, _, HS.out, rfl, HO.out⟩⟩
end Go.Proofs.YtboikhalfffioaaDoor
