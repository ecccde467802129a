/-
  WALKS: the iterator over the parts of a text (impl.partsOf).
-/
import Derived.RangeFuncNested
import Derived.RangeFuncBound
import Derived.RangeFuncCalls
import Derived.RangeFuncLeaves
import Derived.OwnWalkIn
import Derived.TacticsInMore
import Derived.LoopNIn
import Derived.LoopIn
import Derived.Lib.HexFns2
import Derived.Test.YtoipbocbgadjbaaSa
namespace Go.Proofs.Ytoipbocbgadjbaa
open Go.RowKit

attribute [local go_sem] Oper.semAt_some

/-- How much is left to be cut. -/
def cutLeft : Value → Value → Nat
  | .string s, .bool true => s.size + 1
  | _, _ => 0

def tailOf (r : ByteArray) (m : Bool) : List ByteArray := if m = true then Pm.splitB r else []

set_option maxRecDepth 100000 in
set_option maxHeartbeats 1000000 in
/-- The closure's walk, for whatever loop body. -/
theorem parts1_in (n : Nat) (hn : 1 ≤ n) (l Bn n₀ : Nat) (s : ByteArray) (hs : s.size ≤ 140737488355328) (J Jx : List ByteArray → World → Prop)
    (hJd : ∀ pre W, J pre W → J pre W.drew)
    (hY : ∀ pre x W, J pre W → pre.length < (Pm.partsB s).length → YieldAt Fence.wide (n - 1) Try.prog l #[.string x] W fun e W' =>
      (e = .returned (.bool true) ∧ J (pre ++ [x]) W' ∧ Below n₀ W W') ∨ (e = .returned (.bool false) ∧ Jx (pre ++ [x]) W'))
    (W : World) (hBn : W.cell? ⟨Bn, 0, none⟩ = some (.string s)) (h0 : J [] W) :
    CallsIn Fence.wide n Try.prog 74 #[.func (.yield l) #[] #[], .pointer (some ⟨Bn, 0, none⟩)] W fun e W' => (∃ v, e = .returned v) ∧
      ((∃ ys, ys = Pm.partsB s ∧ J ys W') ∨ (∃ pre, pre <+: Pm.partsB s ∧ Jx pre W')) := by
  have key : ∃ (r : ByteArray) (m : Bool), r.size ≤ 140737488355328 ∧ Hid (Pm.partsB s = tailOf r m) ∧ ∀ w, Calls Try.prog 75 #[.string s, .string ⟨#[47]⟩] w fun e w' => e = .returned (.tuple #[.string r, .bool m]) ∧ w' = w := by
    by_cases h : (s.extract 0 1).toList = [47]
    · have h1 : 1 ≤ s.size := by
        exact Pm.one_le_of_head h
      exact ⟨s.extract 1 s.size, true, Pm.extract_le s 1 _ hs, Pm.partsB_yes s h, fun w => cutPrefix_yes s w h h1 hs⟩
    · have h' : 1 ≤ s.size → ((s.extract 0 1).toList == [47]) = false := fun _ => by simpa using h
      exact ⟨s, false, hs, Pm.partsB_no s h', fun w => cutPrefix_no s w h' hs⟩
  obtain ⟨r0, m0, hr0, HP, hcp⟩ := key
  refine callsIn_of_wp Try.func74 rfl trivial ?_ rfl
  simp only [Try.ntmps74, List.size_toArray, List.length_cons, List.length_nil, Nat.reduceAdd, Nat.reduceSub, Array.replicate_succ, Array.replicate_zero, List.push_toArray, List.append_toArray, List.nil_append, List.cons_append]
  gi_wp2_with (refine ⟨trivial, ?_⟩; gi_at_call 75; refine (callsIn_wide.2 (hcp _)).mono ?_; rintro e w' ⟨rfl, rfl⟩)
  gi_loopw [3, 4] (fun r m wr => ∃ (pre : List ByteArray) (rb : ByteArray) (mb : Bool), r = .string rb ∧ m = .bool mb ∧ rb.size ≤ 140737488355328 ∧ Hid (Pm.partsB s = pre ++ tailOf rb mb) ∧ J pre wr)
    (fun r m wr => cutLeft r m)
  case atStart =>
    exact ⟨[], r0, m0, rfl, rfl, hr0, HP, h0⟩
  case round =>
    obtain ⟨pre, rb, mb, rfl, rfl, hrb, HX, hJs⟩ := hrel
    cases mb with
    | false =>
      gi_wp2
      go_end0
      exact ⟨⟨_, rfl⟩, .inl ⟨pre, by have := HX.out; simpa [tailOf] using this.symm, hJs⟩⟩
    | true =>
      rcases Pm.indexByte_cases rb with hix | ⟨i, hix, hroom⟩
      · have hsp := Pm.splitB_miss rb hix
        have HX2 : Hid (Pm.partsB s = pre ++ [rb]) := by have := HX.out; show _ = _; simpa [tailOf, hsp] using this
        have hc := fun w => cut_miss rb w hix
        have hlt : pre.length < (Pm.partsB s).length := by rw [HX2.out]; simp
        obtain ⟨fn, tmps, assign, body, hy, hR⟩ := hY pre rb wr hJs hlt
        clear hlt hix hsp
        gi_wp2_with (refine ⟨trivial, ?_⟩; gi_at_call 76; refine (callsIn_wide.2 (hc _)).mono ?_; rintro e w' ⟨rfl, rfl⟩)
        refine hR.mono ?_
        rintro e W3 (⟨rfl, hJ3, hk3⟩ | ⟨rfl, hJx3⟩)
        · gi_wp2
          go_roundw
          case rel => exact ⟨pre ++ [rb], ⟨#[]⟩, false, rfl, rfl, Nat.zero_le _, by have := HX2.out; show _ = _; simpa [tailOf] using this, hJ3⟩
          case measure => show 0 < rb.size + 1; omega
        · gi_wp2
          refine bodyPost_ret (results_none rfl _ _ _) rfl ?_
          exact ⟨⟨_, rfl⟩, .inr ⟨pre ++ [rb], by rw [HX2.out]; exact List.prefix_rfl, hJx3⟩⟩
      · have hsp := Pm.splitB_hit rb i hix
        have HX2 : Hid (Pm.partsB s = pre ++ (rb.extract 0 i :: Pm.splitB (rb.extract (i + 1) rb.size))) := by have := HX.out; show _ = _; simpa [tailOf, hsp] using this
        have hc := fun w => cut_hit rb i w hix hroom hrb
        have hlt : pre.length < (Pm.partsB s).length := by rw [HX2.out]; simp
        obtain ⟨fn, tmps, assign, body, hy, hR⟩ := hY pre (rb.extract 0 i) wr.drew (hJd _ _ hJs) hlt
        clear hlt hix hsp
        gi_wp2_with (refine ⟨trivial, ?_⟩; gi_at_call 76; refine (callsIn_wide.2 (hc _)).mono ?_; rintro e w' ⟨rfl, rfl⟩)
        refine hR.mono ?_
        rintro e W3 (⟨rfl, hJ3, hk3⟩ | ⟨rfl, hJx3⟩)
        · gi_wp2
          go_roundw
          case rel => exact ⟨pre ++ [rb.extract 0 i], rb.extract (i + 1) rb.size, true, rfl, rfl, Pm.extract_le rb _ _ hrb, by have := HX2.out; show _ = _; simpa [tailOf] using this, hJ3⟩
          case measure => show (rb.extract (i + 1) rb.size).size + 1 < rb.size + 1; rw [ByteArray.size_extract]; omega
        · gi_wp2
          refine bodyPost_ret (results_none rfl _ _ _) rfl ?_
          exact ⟨⟨_, rfl⟩, .inr ⟨pre ++ [rb.extract 0 i], by rw [HX2.out]; exact ⟨Pm.splitB (rb.extract (i + 1) rb.size), by simp⟩, hJx3⟩⟩

set_option maxHeartbeats 1000000 in
set_option maxRecDepth 100000 in
/-- impl.partsOf: the text is boxed; the function value captures the box. -/
theorem partsOf_in (n : Nat) (s : ByteArray) (w : World) :
    CallsIn Fence.wide n Try.prog 62 #[.string s] w fun e w' => e = .returned (.func (.func 74) #[] #[.pointer (some ⟨w.heap.size, 0, none⟩)]) ∧ w' = w.alloc (.cells #[.string s] 9) := by
  refine callsIn_of_wp Try.func62 rfl trivial ?_ rfl
  simp only [Try.ntmps62, List.size_toArray, List.length_cons, List.length_nil, Nat.reduceAdd, Nat.reduceSub, Array.replicate_succ, Array.replicate_zero, List.push_toArray, List.append_toArray, List.nil_append, List.cons_append]
  gi_wp2
  go_ret
  exact ⟨rfl, rfl⟩

theorem partsOf_stops (n : Nat) (hn : 1 ≤ n) (Bn n₀ : Nat) (s : ByteArray) (hs : s.size ≤ 140737488355328) (w : World) (hBn : Bn < w.heap.size)
    (hc : w.cell? ⟨Bn, 0, none⟩ = some (.string s)) :
    SeqStopsK Fence.wide n Try.prog 74 #[.pointer (some ⟨Bn, 0, none⟩)] (fun x : ByteArray => #[Value.string x]) (Below n₀) (fun ys => ys = Pm.partsB s) (fun pre => pre <+: Pm.partsB s) (Pm.partsB s).length w := fun l J Jx W hW hJ _ hY h0 =>
  parts1_in n hn l Bn n₀ s hs J Jx (fun pre W h => hJ pre W W.drew none h (Lib.Hx.grownBy_drew (Lib.Hx.grownBy_refl W none)) (fun r e => by cases e)) hY W ((hW.cell (p := ⟨Bn, 0, none⟩) hBn).trans hc) h0

end Go.Proofs.Ytoipbocbgadjbaa
