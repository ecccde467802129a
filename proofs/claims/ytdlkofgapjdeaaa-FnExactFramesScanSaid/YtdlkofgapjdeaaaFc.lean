/-
  WALKS: lists of lists of numbers; spec.FramesOf.
-/
import Derived.Deep.Cut
import Derived.Test.YtdlkofgapjdeaaaFb
namespace Go.Proofs.Ytdlkofgapjdeaaa
open Go.RowKit
set_option linter.unusedVariables false

/-- A list of lists of numbers, wherever it lies. -/
def TabAt (W : World) (a : Option Addr) (len : Nat) (bs : List (List Int)) : Prop :=
  bs.length = len ∧ (len = 0 ∨ ∃ b off, a = some ⟨b, off, none⟩ ∧ ∀ i z, bs[i]? = some z → ∃ ai ci, W.cell? ⟨b, off + i, none⟩ = some (.slice ai z.length ci) ∧ IntsAt W ai z.length z)

theorem TabAt.keep {W W' : World} {a : Option Addr} {len : Nat} {bs : List (List Int)} (h : TabAt W a len bs) (hb : Below W.heap.size W W') : TabAt W' a len bs := by
  obtain ⟨h1, h0 | ⟨b, off, ha, hc⟩⟩ := h
  · exact ⟨h1, .inl h0⟩
  · refine ⟨h1, .inr ⟨b, off, ha, fun i x hx => ?_⟩⟩
    obtain ⟨ai, ci, h2, h3⟩ := hc i x hx
    exact ⟨ai, ci, cell_kept hb h2, h3.keep hb⟩

theorem TabAt.at {W : World} {a : Option Addr} {len : Nat} {bs : List (List Int)} (h : TabAt W a len bs) {i : Nat} (hi : i < len) :
    ∃ b off z ai ci, a = some ⟨b, off, none⟩ ∧ bs[i]? = some z ∧ W.cell? ⟨b, off + i, none⟩ = some (.slice ai z.length ci) ∧ IntsAt W ai z.length z := by
  obtain ⟨h1, h0 | ⟨b, off, ha, hc⟩⟩ := h
  · omega
  · obtain ⟨x, hx⟩ : ∃ x, bs[i]? = some x := ⟨_, List.getElem?_eq_getElem (by omega)⟩
    obtain ⟨ai, ci, h2, h3⟩ := hc i x hx
    exact ⟨b, off, x, ai, ci, ha, hx, h2, h3⟩

/-- The lists are short. -/
def ShortT (m : Nat) (bs : List (List Int)) : Prop := ∀ b ∈ bs, b.length ≤ m

/-- A list of numbers or a failure. -/
def FPost (r : Option (List Int)) (W : World) (e : Ending) (w' : World) : Prop :=
  ∃ (sl : Value) (out : List Int) (b : Bool), e = .returned (.tuple #[sl, .bool b]) ∧ ((b = true ∧ r = some out) ∨ (b = false ∧ r = none ∧ out = [])) ∧ w'.ownsRow W.heap.size 3 1 sl out.length (intsV out) ∧ Below W.heap.size W w'

theorem framesL_len : ∀ {bs : List (List Int)}, bs.all bodyOk = true → (framesL bs).length ≤ 18 * bs.length
  | [], _ => by simp [framesL]
  | b :: bs, h => by
    simp only [List.all_cons, Bool.and_eq_true] at h
    have := bodyOk_len h.1
    have ih := framesL_len h.2
    rw [framesL_cons, List.length_append, frame_length, List.length_cons]
    omega

def FramesRel (bs : List (List Int)) (W1 : World) (o i : Value) (wr : World) : Prop :=
  ∃ n : Nat, i = .int .i64 n ∧ n ≤ bs.length ∧ Hid ((bs.take n).all bodyOk = true) ∧ wr.ownsRow W1.heap.size 3 1 o (framesL (bs.take n)).length (intsV (framesL (bs.take n))) ∧ Hid (Below W1.heap.size W1 wr)

theorem framesOf_none {bs : List (List Int)} {i : Nat} {z : List Int} (h : bs[i]? = some z) (hz : bodyOk z = false) : framesOf bs = none := by
  unfold framesOf
  rw [if_neg]
  intro hc
  simp only [Bool.and_eq_true] at hc
  have := List.all_eq_true.1 hc.1 z (List.mem_of_getElem? h)
  rw [hz] at this; cases this

theorem takeT_next {bs : List (List Int)} {i : Nat} {z : List Int} (h : bs[i]? = some z) : bs.take (i + 1) = bs.take i ++ [z] := by
  rw [List.take_add_one, h]; rfl

theorem own_casesT {W : World} {base : Nat} {e : TypeId} {size n : Nat} {v : Value} {xs : List Value} (h : W.ownsRow base e size v n xs) : (v = .slice none 0 0 ∧ n = 0) ∨ ∃ g cap, v = .slice (some ⟨g, 0, none⟩) n cap := by
  rcases h.2 with h | ⟨g, cap, _, h, _⟩
  · exact .inl h
  · exact .inr ⟨g, cap, h⟩

theorem own_cells1 {W : World} {base : Nat} {e : TypeId} {zs : List Int} {g cap : Nat} (h : W.ownsRow base e 1 (.slice (some ⟨g, 0, none⟩) zs.length cap) zs.length (intsV zs)) :
    ∀ j u, (intsV zs)[j]? = some u → W.cell? ((⟨g, 0, none⟩ : Addr).add j) = some u := by
  intro j u hj
  have hj' := (List.getElem?_eq_some_iff.1 hj).1
  rw [intsV_length] at hj'
  have := h.cellAt j (by omega)
  rw [add_off, Nat.zero_add, this]
  exact hj

set_option maxHeartbeats 2000000 in
set_option maxRecDepth 100000 in
theorem specFramesOf_c (a : Option Addr) (len cap : Nat) (bs : List (List Int)) (hl : len ≤ 2097152) (hs : ShortT 2097152 bs) (W : World) (hN : TabAt W a len bs) :
    Calls Try.prog 25 #[.slice a len cap] W (FPost (framesOf bs) W) := by
  obtain ⟨i0, hi, hz0, hz1, hz2⟩ := info_parts infoInt
  have HE := Lib.hid hN.1
  have HN := Lib.hid hN
  have HS := Lib.hid hs
  have hl' : (len : Int) ≤ 2097152 := by omega
  clear hN hs
  go_enter Try.func25, Try.ntmps25
  go_wp2
  go_loopw [4, 5] (fun o i wr => FramesRel bs W o i wr) (fun _ i _ => len - (intOf i).toNat)
  case atStart => exact ⟨0, rfl, by omega, by simp [Hid], World.ownsRow_lit (e := 3) (size := 1) W #[] 0 (Nat.le_refl _) (by simp [maxLen]) rfl, below_box _ _⟩
  case round =>
    obtain ⟨i, rfl, hi1, HA, hown, HB⟩ := hrel
    by_cases hlt : i < len
    · obtain ⟨b, off, z, ai, ci, rfl, hz, c0, hzi⟩ := (HN.out.keep HB.out).at hlt
      have hlt' : (i : Int) < len := by omega
      have hil : (i : Int) ≤ 2097152 := by omega
      have HLT := Lib.hid hlt
      have hzl := HS.out z (List.mem_of_getElem? hz)
      obtain ⟨p, hp⟩ : ∃ p, bodyOk z = p := ⟨_, rfl⟩
      have HBD := Lib.hid (show Calls Try.prog 40 #[.slice ai z.length ci] wr (fun e W' => e = .returned (.bool p) ∧ W' = wr) by rw [← hp]; exact l4Body_c ai z.length ci z hzl wr hzi)
      cases p with
      | false =>
        have HG := Lib.hid (framesOf_none hz hp)
        clear hlt hi1 hz hp hzi hown
        go_wp2_with fail
        refine HBD.out.mono ?_
        rintro e w' ⟨rfl, rfl⟩
        go_wp2
        refine bodyPost_ret (v := .tuple #[.slice (some ⟨w'.heap.size, 0, none⟩) 0 0, .bool false]) (by simp [results, Try.f25, go_sem]) rfl
          ⟨_, [], false, rfl, .inr ⟨rfl, HG.out, rfl⟩, World.ownsRow_lit (e := 3) (size := 1) w' #[] 0 HB.out.size (by simp [maxLen]) rfl, below_next HB.out (below_box _ _)⟩
      | true =>
        have hzlen := bodyOk_len hp
        have HFR := Lib.hid (show Calls Try.prog 20 #[.slice ai z.length ci] wr (fun e W' => OwnsInts wr.heap.size (frame z) e W' ∧ Below wr.heap.size wr W') by
          have := specFrameOf_c ai z.length ci z hzl wr hzi
          rwa [show frameOf z = frame z by unfold frameOf; rw [hp]; rfl] at this)
        have HTK := Lib.hid (takeT_next hz)
        have HAN := Lib.hid (show (bs.take (i + 1)).all bodyOk = true by rw [takeT_next hz, List.all_append, show (bs.take i).all bodyOk = true from HA.out]; simp [hp])
        have HFL := Lib.hid (show (framesL (bs.take i)).length ≤ 18 * 2097152 by have := framesL_len HA.out; rw [List.length_take] at this; omega)
        have hfl18 := frame_length z
        have HFZ := Lib.hid (show (frame z).length ≤ 18 by omega)
        have hf0 : (frame z).length ≠ 0 := by omega
        have HO := Lib.hid hown
        clear hlt hi1 hz hp hzi hown hfl18
        go_wp2_with fail
        refine HBD.out.mono ?_
        rintro e w' ⟨rfl, rfl⟩
        go_wp2_with fail
        refine HFR.out.mono ?_
        rintro e w2 ⟨⟨s2, rfl, ho2⟩, hb2⟩
        rcases own_casesT ho2 with ⟨_, h0⟩ | ⟨g2, cap2, rfl⟩
        · exact absurd h0 hf0
        have HO2 := Lib.hid (own_below1 HO.out hb2)
        have HOX := Lib.hid ho2
        have hlt0 := HO2.out.lt
        have HB2 := Lib.hid (below_next HB.out hb2)
        clear ho2 hb2 hf0
        go_wp2_with (at_builtin; refine wpList_append_own _ rfl _ _ 23 rfl W.heap.size 3 i0 (.int .i64 0) 1 8 Try.underlying23 hi hz0 hz1 hz2 rfl (by decide) _ _ _ rfl HO2.out ⟨g2, 0, none⟩ _ cap2 (intsV (frame z)) rfl (by rw [intsV_length]; omega) (own_cells1 HOX.out) (intsV_cells _) (by have := HFL.out; have := HFZ.out; unfold maxLen; omega) (by have := HFL.out; have := HFZ.out; omega) HB2.out.size ?_; intro v5 w5 ho5 hg5 hn5)
        have B5 : Below W.heap.size W w5 := HB2.out.grown hg5 HB2.out.size (fun g e => (hlt0 g e).1)
        go_roundw
        case rel => exact ⟨i + 1, by push_cast; rfl, by have := HE.out; have := HLT.out; omega, HAN.out, by rw [HTK.out, framesL_append, framesL_one]; exact own_join1 ho5, B5⟩
        case measure => have := HLT.out; simp [intOf]; omega
    · have hge : (len : Int) ≤ i := by omega
      have htk : bs.take i = bs := List.take_of_length_le (by have := HE.out; omega)
      rw [htk] at HA hown
      by_cases h40 : len ≤ 40
      · have h40' : (len : Int) ≤ 40 := by omega
        have HG := Lib.hid (show framesOf bs = some (framesL bs) by
          unfold framesOf; rw [show bs.all bodyOk = true from HA.out, decide_eq_true (by have := HE.out; omega)]; rfl)
        clear hi1 hlt htk h40
        go_wp2
        refine bodyPost_ret (v := .tuple #[u4, .bool true]) (by simp [results, Try.f25, go_sem]) rfl ⟨_, framesL bs, true, rfl, .inl ⟨rfl, HG.out⟩, hown, HB.out⟩
      · have h40' : (40 : Int) < len := by omega
        have HG := Lib.hid (show framesOf bs = none by
          unfold framesOf; rw [if_neg]; intro hc; simp only [Bool.and_eq_true, decide_eq_true_eq] at hc; have := HE.out; omega)
        clear hi1 hlt htk h40
        go_wp2
        refine bodyPost_ret (v := .tuple #[.slice (some ⟨wr.heap.size, 0, none⟩) 0 0, .bool false]) (by simp [results, Try.f25, go_sem]) rfl
          ⟨_, [], false, rfl, .inr ⟨rfl, HG.out, rfl⟩, World.ownsRow_lit (e := 3) (size := 1) wr #[] 0 HB.out.size (by simp [maxLen]) rfl, below_next HB.out (below_box _ _)⟩

end Go.Proofs.Ytdlkofgapjdeaaa
