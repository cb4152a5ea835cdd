/-
  Layer 3: Names.
-/
import Derived.Test.YtaeiijncklmfdaaDkX
import Derived.Test.YtaeiijncklmfdaaIter
import Derived.WalkKit
import Derived.CallsIn
import Derived.OwnWalkIn
namespace Go.Proofs.Ytaeiijncklmfdaa
open Go.RowKit Go.Maps Go.Sort Go.Shelf

theorem sortsD (m : Nat) : AnyZ.SortsIn Try.prog Try.sortedD_ren Fence.wide m :=
  ⟨fun blk off cap ss W hH hblk hsz => callsIn_wide.2 (AnyM.slices_Sort_string Try.sortD blk off cap ss W hH hblk hsz),
   fun p cap W => callsIn_wide.2 (AnyM.slices_Sort_string_none Try.sortD p cap W)⟩
theorem keys_in (mb : Option Nat) (W : World) : CallsIn Fence.wide 5 Try.prog 56 #[.map mb] W fun e w' => e = .returned (.func (.func 74) #[] #[.pointer (some ⟨W.heap.size, 0, none⟩)]) ∧ w' = W.alloc (.cells #[.map mb] 66) :=
  AnyZ.keys_in Try.keysD Fence.wide 5 trivial rfl mb W
set_option maxHeartbeats 1000000 in
theorem sorted_in' {H : Type} (b nn : Nat) (D0 : DataW H) (R : Value → Option (DataW H × List MemPlace)) (w : World) (hown : w.ownsMap Try.prog 9 R b nn D0) (hmax : Maps.size D0 ≤ maxLen) (hbytes : Maps.size D0 * 16 ≤ 140737488355328) :
    CallsIn Fence.wide 5 Try.prog 55 #[.func (.func 74) #[] #[.pointer (some ⟨w.heap.size, 0, none⟩)]] (w.alloc (.cells #[.map (some b)] 66)) fun e w' => ∃ (v : Value) (ss : List (List UInt8)), e = .returned v ∧ ss.Perm (strKeys D0) ∧
      w'.ownsRow (w.alloc (.cells #[.map (some b)] 66)).heap.size 9 1 v ss.length ((ss.mergeSort (fun x y => decide (x ≤ y))).map encStr) ∧ (v = .slice none 0 0 ↔ ss = []) ∧ Below (w.alloc (.cells #[.map (some b)] 66)).heap.size (w.alloc (.cells #[.map (some b)] 66)) w' := by
  have hbl := hown.lt
  have hseq : SeqGives Fence.wide 2 Try.prog 74 #[.pointer (some ⟨w.heap.size, 0, none⟩)] encStr (fun ss => ss.Perm (strKeys D0)) (Maps.size D0) (w.alloc (.cells #[.map (some b)] 66)) :=
    AnyZ.keys_gives (ρ := Try.keysD_ren) { Try.keysD with } Fence.wide _ trivial rfl (by omega) w.heap.size b nn D0 _ (by simp) (by simp) (by
      obtain ⟨es, clock, hb, Ft, hs, hD⟩ := hown
      exact ⟨es, clock, (Below.heap_alloc _ _ b hbl).trans hb, Ft, hs, hD⟩)
  exact AnyZ.sorted_in Try.sortedD Fence.wide 5 trivial trivial trivial trivial rfl (by omega) (sortsD _) (enters_of Try.func73 (by kernel_rfl) rfl) 74 #[.pointer (some ⟨w.heap.size, 0, none⟩)] trivial (enters_of Try.func74 (by kernel_rfl) rfl) _ _ hmax hbytes _ hseq

/-- How a pointer in the map is read: not at all. -/
def RN (_ : Value) : Option (DataW Unit × List MemPlace) := some (.nil, [])
theorem keyOfS (k : ByteArray) (h : k.size ≤ maxLen) : keyOf Try.prog 9 (.string k) = some (.string k.data.toList) := by
  unfold keyOf
  rw [Try.underlying9]
  simp only
  unfold mapKey
  rw [Try.underlying9]
  simp [h]
set_option maxRecDepth 100000 in
theorem map_owns {w : World} {g : Nat} {F : List (ByteArray × Nat)} (h : MapAt w g F) (hn : ∀ x ∈ F, x.1.size ≤ 1000000) (hl : F.length ≤ 1000000) : ∃ D : DataW Unit, w.ownsMap Try.prog 9 RN g F.length D ∧ Maps.size D = F.length ∧ (strKeys D).Perm (F.map fun x => x.1.data.toList) := by
  obtain ⟨es, clock, hg, hst, he⟩ := h
  have hsz : es.size = F.length := by
    have := congrArg List.length he
    simpa using this
  have hrd : ∀ x ∈ es.toList, ∃ k : ByteArray, x.key = .string k ∧ k.size ≤ 1000000 := fun x hx => by
    have h1 : kvE x ∈ F.map kvV := by rw [← he]; exact List.mem_map.2 ⟨x, hx, rfl⟩
    obtain ⟨y, hy, e1⟩ := List.mem_map.1 h1
    exact ⟨y.1, (congrArg Prod.fst e1).symm, hn y hy⟩
  have hrg : ∀ x ∈ es.toList, ∀ k : ByteArray, x.key = .string k → WideElems.rg Try.prog 9 RN x = (.string k.data.toList, .nil) := fun x hx k hk => by
    obtain ⟨k', e1, hs⟩ := hrd x hx
    rw [hk] at e1
    cases e1
    unfold WideElems.rg WideElems.rd
    rw [hk, keyOfS k (by unfold maxLen; omega)]
    rfl
  refine ⟨_, ⟨es, clock, hg, ⟨by unfold maxLen; omega, hst, fun x hx => ?_⟩, Nat.le_of_eq hsz, rfl⟩, ?_, ?_⟩
  · obtain ⟨k, e1, hs⟩ := hrd x hx
    unfold WideElems.rd
    rw [e1, keyOfS k (by unfold maxLen; omega)]
    exact ⟨_, rfl⟩
  · show ((es.toList.map (WideElems.rg Try.prog 9 RN)).foldr DataW.insert []).length = _
    rw [length_sorted]
    simpa using hsz
  · show ((((es.toList.map (WideElems.rg Try.prog 9 RN)).foldr DataW.insert []).map fun p => strOf p.1)).Perm _
    refine ((WideShapes.sorted_perm _).map _).trans ?_
    rw [List.map_map]
    have : (es.toList.map fun x => strOf (WideElems.rg Try.prog 9 RN x).1) = F.map fun x => x.1.data.toList := by
      have h2 : (es.toList.map fun x => strOf (WideElems.rg Try.prog 9 RN x).1) = (es.toList.map kvE).map fun y => (match y.1 with | .string k => k.data.toList | _ => []) := by
        rw [List.map_map]
        refine List.map_congr_left fun x hx => ?_
        obtain ⟨k, e1, hs⟩ := hrd x hx
        rw [hrg x hx k e1]
        show k.data.toList = match x.key with | .string k => k.data.toList | _ => []
        rw [e1]
      rw [h2, he, List.map_map]
      rfl
    rw [← this]
    exact List.Perm.refl _
def mkBA (l : List UInt8) : ByteArray := ⟨l.toArray⟩
def NmPost (w : World) (s : DkS) (e : Ending) (w' : World) : Prop :=
  ∃ v l, e = .returned v ∧ OwnT w' w.heap.size v l ∧ Below w.heap.size w w' ∧ (s.power = false → l = []) ∧ (s.power = true → l.Perm (s.folder.map (·.1)) ∧ (l.map fun k => k.data.toList).Pairwise (· ≤ ·))
theorem mkBA_back (k : ByteArray) : mkBA k.data.toList = k := by
  cases k
  simp [mkBA]
theorem le_trans_b (a b c : List UInt8) : (fun x y : List UInt8 => decide (x ≤ y)) a b = true → (fun x y : List UInt8 => decide (x ≤ y)) b c = true → (fun x y : List UInt8 => decide (x ≤ y)) a c = true := by
  simp only [decide_eq_true_eq]
  exact fun h1 h2 => List.le_trans h1 h2
theorem le_total_b (a b : List UInt8) : ((fun x y : List UInt8 => decide (x ≤ y)) a b || (fun x y : List UInt8 => decide (x ≤ y)) b a) = true := by
  simp only [Bool.or_eq_true, decide_eq_true_eq]
  exact List.le_total a b
section
variable {w : World} {base d : Nat} {s : DkS} {c : Nat → Nat}
set_option maxRecDepth 100000 in
set_option maxHeartbeats 1000000 in
theorem names_yes (h0 : Dk w base d s c) (hn : ∀ x ∈ s.folder, x.1.size ≤ 1000000) (hl : s.folder.length ≤ 1000000) : Calls Try.prog 20 #[ptD d] w (NmPost w s) := by
  obtain ⟨fo, du, pe, pl, bv, h⟩ := h0
  have hpw := power_yes w h
  cases hp : s.power with
  | false =>
    rw [hp] at hpw
    have HP : Hid (NmPost w s (.returned (.slice none 0 0)) w) := Lib.hid ⟨_, [], rfl, OwnT.nil _ _, Below.refl _ _, (fun _ => rfl), fun e => by rw [hp] at e; cases e⟩
    unfold ptD at *
    have HPW := Lib.hid hpw
    clear h hpw
    go_enter Try.func20, Try.ntmps20
    go_wp2_with fail
    refine HPW.out.mono ?_
    rintro e w2 ⟨rfl, rfl⟩
    go_wp2_with fail
    go_ret
    exact HP.out
  | true =>
    rw [hp] at hpw
    obtain ⟨-, -, c2, -⟩ := h.cell
    obtain ⟨D, hown, hsz, hkeys⟩ := map_owns h.fold hn hl
    have HS := Lib.hid (sorted_in' fo _ D RN w hown (by rw [hsz]; unfold maxLen; omega) (by rw [hsz]; omega))
    have HK := Lib.hid (keys_in (some fo) w)
    have HKEYS := Lib.hid hkeys
    have hpi : CallsIn Fence.wide 5 Try.prog 15 #[ptD d] w fun e w' => e = .returned (.bool true) ∧ w' = w := callsIn_wide.2 hpw
    unfold ptD at *
    have HPW := Lib.hid hpi
    clear h hpw hpi hown hkeys
    refine (callsIn_wide (n := 6)).1 ?_
    have hfP : Fence.wide.fn 15 := trivial
    have hfK : Fence.wide.fn 56 := trivial
    have hfS : Fence.wide.fn 55 := trivial
    refine callsIn_of_wp Try.func20 rfl trivial ?_ rfl
    simp only [Try.ntmps20, List.size_toArray, List.length_cons, List.length_nil, Nat.reduceAdd, Nat.reduceSub, Array.replicate_succ, Array.replicate_zero, List.push_toArray, List.append_toArray, List.nil_append, List.cons_append]
    gi_wp2_with (first
      | (gi_at_call 15; refine HPW.out.mono ?_; rintro e w' ⟨rfl, rfl⟩)
      | (gi_at_call 56; refine HK.out.mono ?_; rintro e w' ⟨rfl, rfl⟩)
      | (gi_at_call 55; refine HS.out.mono ?_; rintro e w' ⟨v, ss, rfl, hS, hrow, hnil, hb⟩))
    go_ret
    refine ⟨v, (ss.mergeSort (fun x y => decide (x ≤ y))).map mkBA, rfl, ?_, ((Below.refl _ _).alloc (Nat.le_refl _) _).trans (hb.mono (by simp)), (fun e => by rw [hp] at e; cases e), fun _ => ⟨?_, ?_⟩⟩
    · have e1 : (ss.mergeSort (fun x y => decide (x ≤ y))).map encStr = ((ss.mergeSort (fun x y => decide (x ≤ y))).map mkBA).map Value.string := by
        rw [List.map_map]; rfl
      rw [e1] at hrow
      have e2 : ss.length = ((ss.mergeSort (fun x y => decide (x ≤ y))).map mkBA).length := by simp
      rw [e2] at hrow
      exact ownsRow_base_a hrow (by simp)
    · refine (((List.mergeSort_perm ss _).trans hS).trans HKEYS.out |>.map mkBA).trans ?_
      rw [List.map_map]
      have : (s.folder.map (mkBA ∘ fun x => x.1.data.toList)) = s.folder.map (·.1) := List.map_congr_left fun x _ => mkBA_back x.1
      rw [this]
    · rw [List.map_map]
      have : (ss.mergeSort (fun x y => decide (x ≤ y))).map ((fun k : ByteArray => k.data.toList) ∘ mkBA) = ss.mergeSort (fun x y => decide (x ≤ y)) := by
        refine (List.map_congr_left fun x _ => ?_).trans (List.map_id _)
        simp [mkBA]
      rw [this]
      exact (List.pairwise_mergeSort le_trans_b le_total_b ss).imp fun hx => of_decide_eq_true hx
end
end Go.Proofs.Ytaeiijncklmfdaa
