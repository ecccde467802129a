/-
  WALKS: spec.TreeUnder.
-/
import Derived.Test.YtkoopkaoojhfhaaTl
namespace Go.Proofs.Ytkoopkaoojhfhaa
open Go.RowKit
set_option linter.unusedVariables false

/-- A list of texts that the call has made, and nothing that was there has turned. -/
def TextsPost (xs : List ByteArray) (W : World) (e : Ending) (w' : World) : Prop :=
  (∃ sl, e = .returned sl ∧ w'.ownsRow W.heap.size 9 1 sl xs.length (xs.map Value.string)) ∧ Below W.heap.size W w'

def undAcc (ns : List Nd) (p : ByteArray) (i : Nat) : List ByteArray := ((ns.take i).filter (fun n => undB p n.p)).map Nd.p

theorem undAcc_yes {ns : List Nd} {p : ByteArray} {i : Nat} {n : Nd} (hn : ns[i]? = some n) (h : undB p n.p = true) : undAcc ns p (i + 1) = undAcc ns p i ++ [n.p] := by
  unfold undAcc
  rw [List.take_add_one, hn]
  simp [List.filter_append, h]

theorem undAcc_no {ns : List Nd} {p : ByteArray} {i : Nat} {n : Nd} (hn : ns[i]? = some n) (h : undB p n.p = false) : undAcc ns p (i + 1) = undAcc ns p i := by
  unfold undAcc
  rw [List.take_add_one, hn]
  simp [List.filter_append, h]

theorem undAcc_len (ns : List Nd) (p : ByteArray) (i : Nat) : (undAcc ns p i).length ≤ i := by
  unfold undAcc
  rw [List.length_map]
  exact Nat.le_trans (List.length_filter_le _ _) (by rw [List.length_take]; omega)

def UnderRel (ns : List Nd) (p : ByteArray) (W : World) (o i : Value) (wr : World) : Prop :=
  ∃ n : Nat, i = .int .i64 n ∧ n ≤ ns.length ∧ wr.ownsRow W.heap.size 9 1 o (undAcc ns p n).length ((undAcc ns p n).map Value.string) ∧ Hid (Below W.heap.size W wr)

theorem under_none {ns : List Nd} {p : ByteArray} (h : (validT ns && vpB p) = false) : treeUnder ns p = [] := by unfold treeUnder; rw [h]; rfl

set_option maxHeartbeats 2000000 in
set_option maxRecDepth 100000 in
theorem specTreeUnder_c (a : Option Addr) (len cap : Nat) (ns : List Nd) (p : ByteArray) (hl : len ≤ 2097152) (hs : Short 2097152 ns) (hp : p.size ≤ 2097152) (W : World) (hN : NodesAt W a len ns) :
    Calls Try.prog 31 #[.slice a len cap, .string p] W (TextsPost (treeUnder ns p) W) := by
  obtain ⟨i0, hi, hz0, hz1, hz2⟩ := info_parts infoStr
  have HN := Lib.hid hN
  have HE := Lib.hid hN.1
  have HV := Lib.hid (fun W h => specTreeValid_c a len cap ns hl hs W h)
  have hvp : ∀ w, Calls Try.prog 20 #[.string p] w fun e w' => e = .returned (.bool (vpB p)) ∧ Below w.heap.size w w' := fun w => specValid_c p hp w
  have HL := Lib.hid hl
  clear hN hs hp
  cases hv : validT ns with
  | false =>
    have HR := Lib.hid (under_none (ns := ns) (p := p) (by rw [hv]; rfl))
    rw [hv] at HV
    clear hv hvp
    by_cases h0 : len = 0
    · subst h0
      go_enter Try.func31, Try.ntmps31
      go_wp2
      go_loopw [5, 6] (fun o i wr => o = .slice (some ⟨W.heap.size, 0, none⟩) 0 0 ∧ i = .int .i64 0 ∧ wr = W.alloc (.cells #[] 9)) (fun _ i _ => 0)
      case atStart => exact ⟨rfl, rfl, rfl⟩
      case round =>
        obtain ⟨rfl, rfl, rfl⟩ := hrel
        go_wp2
        go_ret
        exact ⟨⟨_, rfl, by rw [HR.out]; exact World.ownsRow_lit (e := 9) (size := 1) W #[] 0 (Nat.le_refl _) (by simp [maxLen]) rfl⟩, below_box _ _⟩
    · have h0' : (0 : Int) < len := by omega
      clear h0
      go_enter Try.func31, Try.ntmps31
      go_wp2
      go_loopw [5, 6] (fun o i wr => o = .slice (some ⟨W.heap.size, 0, none⟩) 0 0 ∧ i = .int .i64 0 ∧ wr = W.alloc (.cells #[] 9)) (fun _ i _ => 0)
      case atStart => exact ⟨rfl, rfl, rfl⟩
      case round =>
        obtain ⟨rfl, rfl, rfl⟩ := hrel
        go_wp2_with fail
        refine (HV.out _ (HN.out.keep (below_box _ _))).mono ?_; rintro e W1 ⟨rfl, hb1⟩
        have HO := Lib.hid ((World.ownsRow_lit (e := 9) (size := 1) W #[] 0 (Nat.le_refl _) (by simp [maxLen]) rfl).kept (below_grown hb1) (by simp [Value.ownBlock]))
        have B1 := Lib.hid (below_next (below_box W _) hb1)
        clear hb1
        go_wp2
        go_ret
        exact ⟨⟨_, rfl, by rw [HR.out]; exact HO.out⟩, B1.out⟩
  | true =>
    rw [hv] at HV
    cases hq : vpB p with
    | false =>
      have HR := Lib.hid (under_none (ns := ns) (p := p) (by rw [hv, hq]; rfl))
      rw [hq] at hvp
      have HQ := Lib.hid hvp
      clear hv hq hvp
      by_cases h0 : len = 0
      · subst h0
        go_enter Try.func31, Try.ntmps31
        go_wp2
        go_loopw [5, 6] (fun o i wr => o = .slice (some ⟨W.heap.size, 0, none⟩) 0 0 ∧ i = .int .i64 0 ∧ wr = W.alloc (.cells #[] 9)) (fun _ i _ => 0)
        case atStart => exact ⟨rfl, rfl, rfl⟩
        case round =>
          obtain ⟨rfl, rfl, rfl⟩ := hrel
          go_wp2
          go_ret
          exact ⟨⟨_, rfl, by rw [HR.out]; exact World.ownsRow_lit (e := 9) (size := 1) W #[] 0 (Nat.le_refl _) (by simp [maxLen]) rfl⟩, below_box _ _⟩
      · have h0' : (0 : Int) < len := by omega
        clear h0
        go_enter Try.func31, Try.ntmps31
        go_wp2
        go_loopw [5, 6] (fun o i wr => o = .slice (some ⟨W.heap.size, 0, none⟩) 0 0 ∧ i = .int .i64 0 ∧ wr = W.alloc (.cells #[] 9)) (fun _ i _ => 0)
        case atStart => exact ⟨rfl, rfl, rfl⟩
        case round =>
          obtain ⟨rfl, rfl, rfl⟩ := hrel
          go_wp2_with fail
          refine (HV.out _ (HN.out.keep (below_box _ _))).mono ?_; rintro e W1 ⟨rfl, hb1⟩
          go_wp2_with fail
          refine (HQ.out _).mono ?_; rintro e W2 ⟨rfl, hb2⟩
          have HO := Lib.hid ((World.ownsRow_lit (e := 9) (size := 1) W #[] 0 (Nat.le_refl _) (by simp [maxLen]) rfl).kept (below_grown (below_next hb1 hb2)) (by simp [Value.ownBlock]))
          have B2 := Lib.hid (below_next (below_box W _) (below_next hb1 hb2))
          clear hb1 hb2
          go_wp2
          go_ret
          exact ⟨⟨_, rfl, by rw [HR.out]; exact HO.out⟩, B2.out⟩
    | true =>
      rw [hq] at hvp
      have HQ := Lib.hid hvp
      have HVT := Lib.hid hv
      have HVP := Lib.hid hq
      clear hv hq hvp
      go_enter Try.func31, Try.ntmps31
      go_wp2
      go_loopw [5, 6] (fun o i wr => UnderRel ns p W o i wr) (fun _ i _ => len - (intOf i).toNat)
      case atStart => exact ⟨0, rfl, by omega, World.ownsRow_lit (e := 9) (size := 1) W #[] 0 (Nat.le_refl _) (by simp [maxLen]) rfl, below_box _ _⟩
      case round =>
        obtain ⟨i, rfl, hi1, hrow, HB⟩ := hrel
        have hlt0 := hrow.lt
        by_cases hlt : i < len
        · have hlt' : (i : Int) < len := by omega
          have HLT := Lib.hid hlt
          have HAL := Lib.hid (undAcc_len ns p i)
          clear hi1 hlt
          go_wp2_with fail
          refine (HV.out _ (HN.out.keep HB.out)).mono ?_; rintro e W1 ⟨rfl, hb1⟩
          go_wp2_with fail
          refine (HQ.out _).mono ?_; rintro e W2 ⟨rfl, hb2⟩
          have B2 := Lib.hid (below_next HB.out (below_next hb1 hb2))
          have hrow2 := hrow.kept (below_grown (below_next hb1 hb2)) (by cases hv : Value.ownBlock _ <;> simp)
          have hlt2 := hrow2.lt
          clear hb1 hb2 hrow hlt0
          obtain ⟨b, off, n, rfl, hn, c0, c1, c2⟩ := (HN.out.keep B2.out).node HLT.out
          have hu : undB p n.p = l1uB p n.p := by
            have := underB_eq p n.p
            rw [show Pm.valid p.data.toList = true from HVP.out, show Pm.valid n.p.data.toList = true from (good_path HVT.out (List.mem_of_getElem? hn)).2] at this
            exact this
          have HU := Lib.hid (fun w => l1Under_c p n.p w)
          rw [← hu] at HU
          cases hub : undB p n.p with
          | true =>
            have HA := Lib.hid (undAcc_yes hn hub)
            rw [hub] at HU
            clear hu hub hn
            go_wp2_with fail
            refine (HU.out _).mono ?_; rintro e W3 ⟨rfl, rfl⟩
            go_wp2_with (at_builtin; refine wpList_append_own _ rfl _ _ 42 rfl W.heap.size 9 i0 (.string ⟨#[]⟩) 1 16 Try.underlying42 hi hz0 hz1 hz2 rfl (by decide) _ _ _ rfl (hrow2.alloc _) ⟨W2.heap.size, 0, none⟩ 1 1 [.string n.p] rfl rfl (cell_one_new _ _ _) (fun x hx => by simp at hx; subst hx; rfl) (by unfold maxLen; have h5 := HAL.out; have h6 := HLT.out; have h7 := HL.out; omega) (by have h5 := HAL.out; have h6 := HLT.out; have h7 := HL.out; omega) (by have := B2.out.size; simp; omega) ?_; intro v' w3 hown' hg3 hnil3)
            have B3 : Below W.heap.size W w3 := (B2.out.alloc B2.out.size _).grown hg3 (by have := B2.out.size; simp; omega) (fun g e => (hlt2 g e).1)
            go_roundw
            case rel => exact ⟨i + 1, by go_num, by have := HE.out; have := HLT.out; omega, by rw [HA.out, List.length_append, List.map_append]; exact hown', B3⟩
            case measure => have := HLT.out; simp [intOf]; omega
          | false =>
            have HA := Lib.hid (undAcc_no hn hub)
            rw [hub] at HU
            clear hu hub hn
            go_wp2_with fail
            refine (HU.out _).mono ?_; rintro e W3 ⟨rfl, rfl⟩
            clear c0 c1 c2
            go_wp2
            go_roundw
            case rel => exact ⟨i + 1, by go_num, by have := HE.out; have := HLT.out; omega, by rw [HA.out]; exact hrow2, B2⟩
            case measure => have := HLT.out; simp [intOf]; omega
        · have hge : (len : Int) ≤ i := by omega
          have HX := Lib.hid (show undAcc ns p i = treeUnder ns p by
            unfold undAcc treeUnder
            rw [HVT.out, HVP.out, List.take_of_length_le (by have := HE.out; omega)]; rfl)
          clear hi1 hlt
          go_wp2
          go_ret
          rw [HX.out] at hrow
          exact ⟨⟨_, rfl, hrow⟩, HB.out⟩

end Go.Proofs.Ytkoopkaoojhfhaa
