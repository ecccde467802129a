/-
  WALKS: spec.TreePut.
-/
import Derived.Test.YtoipbocbgadjbaaTl
namespace Go.Proofs.Ytoipbocbgadjbaa
open Go.RowKit
set_option linter.unusedVariables false

/-- What a put tells: the new tree and true, or no nodes and false. -/
def TPost (r : Option (List Nd)) (base : Nat) (W : World) (e : Ending) (w' : World) : Prop :=
  ∃ (sl : Value) (out : List Nd) (b : Bool), e = .returned (.tuple #[sl, .bool b]) ∧ ((b = true ∧ r = some out) ∨ (b = false ∧ r = none ∧ out = [])) ∧ w'.ownsRow base 99 3 sl out.length (flatN out) ∧ Below W.heap.size W w'

theorem tput_none {r : Option (List Nd)} {base : Nat} {W w : World} (hr : r = none) (hb : base ≤ w.heap.size) (hB : Below W.heap.size W w) :
    TPost r base W (.returned (.tuple #[.slice (some ⟨w.heap.size, 0, none⟩) 0 0, .bool false])) (w.alloc (.cells #[] 99)) :=
  ⟨_, [], false, rfl, .inr ⟨rfl, hr, rfl⟩, World.ownsRow_lit (e := 99) (size := 3) w #[] 0 hb (by simp [maxLen]) rfl, below_next hB (below_box _ _)⟩

theorem short_put {m : Nat} {ns : List Nd} {p : ByteArray} {k v : Int} (h : Short m ns) (hp : p.size ≤ m) : Short m (putL ns p k v) := by
  intro n hn
  rcases putL_mem.1 hn with ⟨_, rfl⟩ | ⟨h1, _⟩
  · exact hp
  · exact h n h1

theorem putL_len_le {ns : List Nd} {p : ByteArray} {k v : Int} : (putL ns p k v).length ≤ ns.length + 1 := by
  unfold putL
  cases k == 0 with
  | true => rw [putGo_true]; have := List.length_filter_le (fun n : Nd => decide (n.p ≠ p)) ns; omega
  | false => rw [putGo_length]; have := List.length_filter_le (fun n : Nd => decide (n.p ≠ p)) ns; omega

set_option maxHeartbeats 2000000 in
theorem specTreePut_c (a : Option Addr) (len cap : Nat) (ns : List Nd) (p : ByteArray) (k v : Int) (hl : len ≤ 2097151) (hs : Short 2097152 ns) (hp : p.size ≤ 2097152) (W : World) (hN : NodesAt W a len ns) :
    Calls Try.prog 58 #[.slice a len cap, .string p, .agg #[.int .i64 k, .int .i64 v]] W (TPost (treePut ns p k v) W.heap.size W) := by
  have HN := Lib.hid hN
  have HE := Lib.hid hN.1
  have HSH := Lib.hid hs
  have HPS := Lib.hid hp
  have HV := Lib.hid (fun W h => specTreeValid_c a len cap ns (by omega) hs W h)
  have HD := Lib.hid (fun w => specDepth_c p hp w)
  have HC := Lib.hid (fun w => specConValid_c k v w)
  have HL3 := Lib.hid (fun W h => l3Put_c a len cap ns p k v (by omega) W h)
  have HLN := Lib.hid hl
  clear hN hs hp hl
  unfold con at HC
  cases hv : validT ns with
  | false =>
    have HR := Lib.hid (show treePut ns p k v = none by unfold treePut; rw [hv]; rfl)
    rw [hv] at HV
    clear hv
    go_enter Try.func58, Try.ntmps58
    go_wp2_with fail
    refine (HV.out _ (HN.out.keep (below_box _ _))).mono ?_; rintro e W1 ⟨rfl, hb1⟩
    have B1 := Lib.hid (below_next (below_box W _) hb1)
    clear hb1
    go_wp2
    go_ret2
    exact tput_none HR.out B1.out.size B1.out
  | true =>
    rw [hv] at HV
    obtain ⟨d, hd⟩ : ∃ d, depB p = d := ⟨_, rfl⟩
    have hdd : ∀ w, Calls Try.prog 50 #[.string p] w fun e w' => e = .returned (.int .i64 d) ∧ Below w.heap.size w w' := fun w => by rw [← hd]; exact HD.out w
    have HD2 := Lib.hid hdd
    clear hdd
    by_cases h1 : d < 1
    · have HR := Lib.hid (show treePut ns p k v = none by unfold treePut; rw [hv, hd, decide_eq_false (show ¬ 1 ≤ d by omega)]; rfl)
      clear hv hd
      go_enter Try.func58, Try.ntmps58
      go_wp2_with fail
      refine (HV.out _ (HN.out.keep (below_box _ _))).mono ?_; rintro e W1 ⟨rfl, hb1⟩
      go_wp2_with fail
      refine (HD2.out _).mono ?_; rintro e W2 ⟨rfl, hb2⟩
      have B2 := Lib.hid (below_next (below_box W _) (below_next hb1 hb2))
      clear hb1 hb2
      go_wp2
      go_ret2
      exact tput_none HR.out B2.out.size B2.out
    · have h1' : 1 ≤ d := by omega
      cases hc : validB k v with
      | false =>
        have HR := Lib.hid (show treePut ns p k v = none by unfold treePut; rw [hc]; simp)
        rw [hc] at HC
        clear hv hd hc h1
        go_enter Try.func58, Try.ntmps58
        go_wp2_with fail
        refine (HV.out _ (HN.out.keep (below_box _ _))).mono ?_; rintro e W1 ⟨rfl, hb1⟩
        go_wp2_with fail
        refine (HD2.out _).mono ?_; rintro e W2 ⟨rfl, hb2⟩
        have c0 := box_cell (below_next hb1 hb2) 0
        have c1 := box_cell (below_next hb1 hb2) 1
        go_wp2_with fail
        refine (HC.out _).mono ?_; rintro e W3 ⟨rfl, hb3⟩
        have B3 := Lib.hid (below_next (below_box W _) (below_next hb1 (below_next hb2 hb3)))
        clear hb1 hb2 hb3 c0 c1
        go_wp2
        go_ret2
        exact tput_none HR.out B3.out.size B3.out
      | true =>
        rw [hc] at HC
        have HR0 := Lib.hid (show treePut ns p k v = if validT (putL ns p k v) = true then some (putL ns p k v) else none by unfold treePut; rw [hv, hc, hd, decide_eq_true h1']; rfl)
        have hsh := short_put (k := k) (v := v) HSH.out HPS.out
        have hln : (putL ns p k v).length ≤ 2097152 := by have := putL_len_le (ns := ns) (p := p) (k := k) (v := v); have := HE.out; have := HLN.out; omega
        obtain ⟨out, ho⟩ : ∃ out, putL ns p k v = out := ⟨_, rfl⟩
        unfold PutPost at HL3
        rw [ho] at HL3 HR0 hsh hln
        have HV2 := Lib.hid (fun a cap W h => specTreeValid_c a out.length cap out hln hsh W h)
        clear hv hd hc h1 ho hsh hln
        go_enter Try.func58, Try.ntmps58
        go_wp2_with fail
        refine (HV.out _ (HN.out.keep (below_box _ _))).mono ?_; rintro e W1 ⟨rfl, hb1⟩
        go_wp2_with fail
        refine (HD2.out _).mono ?_; rintro e W2 ⟨rfl, hb2⟩
        have c0 := box_cell (below_next hb1 hb2) 0
        have c1 := box_cell (below_next hb1 hb2) 1
        go_wp2_with fail
        refine (HC.out _).mono ?_; rintro e W3 ⟨rfl, hb3⟩
        have c0 := box_cell (below_next hb1 (below_next hb2 hb3)) 0
        have c1 := box_cell (below_next hb1 (below_next hb2 hb3)) 1
        have B3 := Lib.hid (below_next (below_box W _) (below_next hb1 (below_next hb2 hb3)))
        clear hb1 hb2 hb3
        go_wp2_with fail
        refine (HL3.out _ (HN.out.keep B3.out)).mono ?_; rintro e W4 ⟨⟨sl, rfl, hown⟩, hb4⟩
        clear c0 c1
        have hown2 := own_mono hown B3.out.size
        have B4 := Lib.hid (below_next B3.out hb4)
        obtain ⟨ao, co, rfl, hNo⟩ := nodes_of_own hown2
        have HO := Lib.hid hown2
        have HNO := Lib.hid hNo
        clear hown hown2 hNo hb4
        cases hvo : validT out with
        | true =>
          have HR := Lib.hid (show treePut ns p k v = some out by rw [HR0.out, hvo]; rfl)
          rw [hvo] at HV2
          clear hvo
          go_wp2_with fail
          refine (HV2.out _ _ _ HNO.out).mono ?_; rintro e W5 ⟨rfl, hb5⟩
          have HO5 := Lib.hid (HO.out.kept (below_grown hb5) (by cases (Value.slice ao out.length co).ownBlock <;> simp))
          have B5 := Lib.hid (below_next B4.out hb5)
          clear hb5
          go_wp2
          go_ret2
          exact ⟨_, out, true, rfl, .inl ⟨rfl, HR.out⟩, HO5.out, B5.out⟩
        | false =>
          have HR := Lib.hid (show treePut ns p k v = none by rw [HR0.out, hvo]; rfl)
          rw [hvo] at HV2
          clear hvo
          go_wp2_with fail
          refine (HV2.out _ _ _ HNO.out).mono ?_; rintro e W5 ⟨rfl, hb5⟩
          have B5 := Lib.hid (below_next B4.out hb5)
          clear hb5
          go_wp2
          go_ret2
          exact tput_none HR.out B5.out.size B5.out

end Go.Proofs.Ytoipbocbgadjbaa
