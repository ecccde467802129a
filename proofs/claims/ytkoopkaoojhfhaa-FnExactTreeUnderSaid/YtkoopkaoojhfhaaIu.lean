/-
  WALKS: impl.TreeUnder.
-/
import Derived.Test.YtkoopkaoojhfhaaIq
import Derived.Test.YtkoopkaoojhfhaaTn
namespace Go.Proofs.Ytkoopkaoojhfhaa
open Go.RowKit
set_option linter.unusedVariables false

theorem treeUnder_bad {ns : List Nd} {p : ByteArray} (h : validT ns = false ∨ vpB p = false) : treeUnder ns p = [] := by
  unfold treeUnder
  rcases h with h | h <;> simp [h]

theorem texts_nil {xs : List ByteArray} {W w : World} (h : xs = []) (hB : Below W.heap.size W w) : TextsPost xs W (.returned (.slice none 0 0)) w := by
  subst h; exact ⟨⟨_, rfl, World.ownsRow_nil _ _ _ _⟩, hB⟩

def pathVals (out : List Nd) (n : Nat) : List Value := ((out.take n).map Nd.p).map Value.string
theorem pathVals_next {out : List Nd} {n : Nat} {x : Nd} (h : out[n]? = some x) : pathVals out (n + 1) = pathVals out n ++ [.string x.p] := by
  unfold pathVals; rw [take_next h]; simp

/-- The loop that takes the paths. -/
def PathsRel (out : List Nd) (W : World) (W8 : World) (o i : Value) (wr : World) : Prop :=
  ∃ n : Nat, i = .int .i64 n ∧ n ≤ out.length ∧ wr.ownsRow W8.heap.size 9 1 o n (pathVals out n) ∧ Hid (Below W8.heap.size W8 wr)

set_option maxHeartbeats 4000000 in
set_option maxRecDepth 100000 in
theorem implTreeUnder_c (a : Option Addr) (len cap : Nat) (ns : List Nd) (p : ByteArray) (hl : len ≤ 2097152) (hs : Short 2097152 ns) (hp : p.size ≤ 2097152) (W : World) (hN : NodesAt W a len ns) :
    Calls Try.prog 29 #[.slice a len cap, .string p] W (TextsPost (treeUnder ns p) W) := by
  obtain ⟨i0, hi, hz0, hz1, hz2⟩ := info_parts infoStr
  have H := Lib.hid (treeOf_c a len cap ns hl hs W hN)
  obtain ⟨vp, hvp⟩ : ∃ vp, vpB p = vp := ⟨_, rfl⟩
  have HP := Lib.hid (fun W1 => show Calls Try.prog 49 #[.string p] W1 (BoolPost vp W1) by rw [← hvp]; exact pathValid_c p (by omega) W1)
  have HVP := Lib.hid hvp
  clear hN hs hvp
  go_enter Try.func29, Try.ntmps29
  go_wp2_with fail
  refine H.out.mono ?_
  rintro e W2 ⟨hB, h⟩
  rcases h with ⟨hv, rfl⟩ | ⟨hv, A, b, rfl, hA0, hT, hA⟩
  · have HG := Lib.hid (treeUnder_bad (p := p) (.inl hv))
    clear hv
    go_wp2
    refine bodyPost_ret (v := .slice none 0 0) (by simp [results, Try.f29, go_sem]) rfl (texts_nil HG.out hB)
  · have HV := Lib.hid hv
    have HB2 := Lib.hid hB
    have HT := Lib.hid hT
    have HA := Lib.hid hA
    have HA0 := Lib.hid hA0
    clear hv hB hT hA hA0
    go_wp2_with fail
    refine (HP.out _).mono ?_
    rintro e W3 ⟨rfl, hb3⟩
    have HB3 := Lib.hid (below_next HB2.out hb3)
    have HT3 := Lib.hid (HT.out.below hb3)
    clear hb3
    cases vp with
    | false =>
      have HG := Lib.hid (treeUnder_bad (ns := ns) (p := p) (.inr HVP.out))
      go_wp2
      refine bodyPost_ret (v := .slice none 0 0) (by simp [results, Try.f29, go_sem]) rfl (texts_nil HG.out HB3.out)
    | true =>
      obtain ⟨w, hw, hpw⟩ := vpB_word HVP.out
      have hwl : w.length + (4 - w.length) = 4 := by have := hw.1; omega
      have HG := Lib.hid (show treeUnder ns p = (lst (Fof ns) (4 - w.length) w).map Nd.p by
        rw [under_lst HV.out hw]
        unfold treeUnder
        rw [show validT ns = true from HV.out, show vpB p = true from HVP.out, hpw]; rfl)
      have HAT := Lib.hid (show Calls Try.prog 50 #[.pointer (some ⟨b, 0, none⟩), .string p] W3 (AtPost A (Fof ns) w W3) by
        rw [hpw]; exact at_c A _ w hw W3 HT3.out _ HA0.out)
      obtain ⟨out, hout⟩ : ∃ out, out = lst (Fof ns) (4 - w.length) w := ⟨_, rfl⟩
      rw [← hout] at HG
      have HND := Lib.hid (fun (A' : List UInt8 → Option Nat) (b' : Nat) (W' : World) (hT' : Trie W' A' (Fof ns)) (hb' : A' w = some b') =>
        show Calls Try.prog 59 #[.pointer (some ⟨b', 0, none⟩), .string p] W' (fun e W2 => OwnsNodes W'.heap.size out e W2 ∧ Below W'.heap.size W' W2) by
          rw [hpw, hout]; exact nodes_c A' _ (4 - w.length) w b' W' hwl hT' hb')
      have HLN := Lib.hid (show out.length ≤ 4096 by rw [hout]; exact lst_le (by omega) _)
      clear hw hpw hout hwl
      go_wp2_with fail
      refine HAT.out.mono ?_
      rintro e W4 ⟨A4, b4, rfl, hb4, hT4, hX4, hO4⟩
      have HB4 := Lib.hid (HB3.out.trans (hO4.below HB3.out.size HA.out))
      have HND4 := Lib.hid (HND.out A4 b4 W4 hT4 hb4)
      clear hO4 hX4 hT4 hb4 HND
      go_wp2_with fail
      refine HND4.out.mono ?_
      rintro e W8 ⟨⟨sl, rfl, ho8⟩, hb8⟩
      obtain ⟨a8, cap8, rfl, hn8⟩ := nodes_of_own ho8
      have HN8 := Lib.hid hn8
      have HB8 := Lib.hid (below_next HB4.out hb8)
      clear ho8 hb8 hn8
      go_wp2
      go_loopw [7, 28] (fun o i wr => PathsRel out W W8 o i wr) (fun _ i _ => out.length - (intOf i).toNat)
      case atStart => exact ⟨0, rfl, by omega, World.ownsRow_nil _ _ _ _, Below.refl _ _⟩
      case round =>
        obtain ⟨n, rfl, hn, hown, hB⟩ := hrel
        by_cases hlt : n < out.length
        · obtain ⟨g, off, x, rfl, hx, c0, c1, c2⟩ := (HN8.out.keep hB.out).node hlt
          have hlt' : (n : Int) < out.length := by omega
          have hlt0 := hown.lt
          have hn4096 : (n : Int) ≤ 4096 := by have := HLN.out; omega
          have HLT := Lib.hid hlt
          have HSTEP := Lib.hid (pathVals_next hx)
          have hsz8 := HB8.out.size
          have HO := Lib.hid hown
          clear hlt hn hx hown
          go_wp2_with (at_builtin; refine wpList_append_own _ rfl _ _ 42 rfl W8.heap.size 9 i0 (.string ⟨#[]⟩) 1 16 Try.underlying42 hi hz0 hz1 hz2 rfl (by decide) _ _ _ rfl ((HO.out.alloc _).alloc _) ⟨wr.heap.size + 1, 0, none⟩ 1 1 [.string x.p] rfl rfl (fun j u h => by have := cell_one_new (wr.alloc (.cells #[.string x.p, .int .i64 x.k, .int .i64 x.v] 32)) (.string x.p) 9 j u h; rw [World.size_alloc] at this; exact this) (fun y hy => by simp at hy; subst hy; rfl) (by unfold maxLen; have h5 := HLN.out; have h6 := HLT.out; omega) (by have h5 := HLN.out; have h6 := HLT.out; omega) (by have := hB.out.size; simp; omega) ?_; intro v3 w3 ho3 hg3 hn3)
          have B3 : Below W8.heap.size W8 w3 := ((hB.out.alloc hB.out.size _).alloc (by have := hB.out.size; simp; omega) _).grown hg3 (by have := hB.out.size; simp; omega) (fun g e => (hlt0 g e).1)
          go_roundw
          case rel => exact ⟨n + 1, by push_cast; rfl, by have := HLT.out; omega, by rw [HSTEP.out]; exact ho3, B3⟩
          case measure => have := HLT.out; simp [intOf]; omega
        · have hge : (out.length : Int) ≤ n := by omega
          have hnn : n = out.length := by omega
          subst hnn
          go_wp2
          refine bodyPost_ret (v := u7) (by simp [results, Try.f29, go_sem]) rfl ⟨⟨u7, rfl, ?_⟩, below_next HB8.out hB.out⟩
          rw [HG.out, List.length_map]
          unfold pathVals at hown
          rw [List.take_length] at hown
          exact own_mono hown HB8.out.size

end Go.Proofs.Ytkoopkaoojhfhaa
