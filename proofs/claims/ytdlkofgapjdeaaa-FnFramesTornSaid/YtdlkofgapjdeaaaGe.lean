/-
  WALKS: the program's FrameOf, FramesOf.
-/
import Derived.Test.YtdlkofgapjdeaaaGd
namespace Go.Proofs.Ytdlkofgapjdeaaa
open Go.RowKit
set_option linter.unusedVariables false

/-- The three parts of a frame, in a new table. -/
theorem parts_tab {W : World} {a : Option Addr} {len cap : Nat} {zs : List Int} {s : Int} (hI : IntsAt W a len zs) :
    TabAt (((W.alloc (.cells #[.int .i64 len] 3)).alloc (.cells #[.int .i64 s] 3)).alloc (.cells #[.slice (some ⟨W.heap.size, 0, none⟩) 1 1, .slice a len cap, .slice (some ⟨W.heap.size + 1, 0, none⟩) 1 1] 23))
      (some ⟨W.heap.size + 2, 0, none⟩) 3 [[(len : Int)], zs, [s]] := by
  obtain rfl := hI.1
  refine ⟨rfl, .inr ⟨W.heap.size + 2, 0, rfl, fun i z hz => ?_⟩⟩
  have e3 : ((W.alloc (.cells #[.int .i64 zs.length] 3)).alloc (.cells #[.int .i64 s] 3)).heap.size = W.heap.size + 2 := by simp
  have hb1 : Below W.heap.size W (W.alloc (.cells #[.int .i64 zs.length] 3)) := below_box _ _
  have hb2 := below_next hb1 (below_box (W.alloc (.cells #[.int .i64 zs.length] 3)) (.cells #[.int .i64 s] 3))
  have hb3 := below_next hb2 (below_box ((W.alloc (.cells #[.int .i64 zs.length] 3)).alloc (.cells #[.int .i64 s] 3)) (.cells #[.slice (some ⟨W.heap.size, 0, none⟩) 1 1, .slice a zs.length cap, .slice (some ⟨W.heap.size + 1, 0, none⟩) 1 1] 23))
  have hc : ∀ j v, (#[.slice (some ⟨W.heap.size, 0, none⟩) 1 1, .slice a zs.length cap, .slice (some ⟨W.heap.size + 1, 0, none⟩) 1 1] : Array Value)[j]? = some v →
      (((W.alloc (.cells #[.int .i64 zs.length] 3)).alloc (.cells #[.int .i64 s] 3)).alloc (.cells #[.slice (some ⟨W.heap.size, 0, none⟩) 1 1, .slice a zs.length cap, .slice (some ⟨W.heap.size + 1, 0, none⟩) 1 1] 23)).cell? ⟨W.heap.size + 2, 0 + j, none⟩ = some v := by
    intro j v hv
    rw [Nat.zero_add, ← e3, World.cell?_alloc_new]
    exact hv
  match i, hz with
  | 0, hz =>
    simp at hz; subst hz
    refine ⟨_, _, hc 0 _ rfl, rfl, .inr ⟨W.heap.size, 0, rfl, fun k x hx => ?_⟩⟩
    obtain ⟨rfl, rfl⟩ : k = 0 ∧ x = zs.length := by
      cases k with
      | zero => simp at hx; exact ⟨rfl, hx.symm⟩
      | succ k => simp at hx
    refine cell_kept (below_box _ _) (cell_kept (below_box _ _) ?_)
    rw [World.cell?_alloc_new]; rfl
  | 1, hz =>
    simp at hz; subst hz
    exact ⟨_, _, hc 1 _ rfl, hI.keep hb3⟩
  | 2, hz =>
    simp at hz; subst hz
    refine ⟨_, _, hc 2 _ rfl, rfl, .inr ⟨W.heap.size + 1, 0, rfl, fun k x hx => ?_⟩⟩
    obtain ⟨rfl, rfl⟩ : k = 0 ∧ x = s := by
      cases k with
      | zero => simp at hx; exact ⟨rfl, hx.symm⟩
      | succ k => simp at hx
    refine cell_kept (below_box _ _) ?_
    have : W.heap.size + 1 = (W.alloc (.cells #[.int .i64 zs.length] 3)).heap.size := by simp
    rw [this, World.cell?_alloc_new]; rfl
  | i + 3, hz => simp at hz

set_option maxHeartbeats 1000000 in
theorem implFrameOf_c (a : Option Addr) (len cap : Nat) (zs : List Int) (hl : len ≤ 2097152) (W : World) (hN : IntsAt W a len zs) :
    Calls Try.prog 19 #[.slice a len cap] W fun e W' => OwnsInts W.heap.size (frameOf zs) e W' ∧ Below W.heap.size W W' := by
  obtain ⟨sm, hsm⟩ : ∃ sm, bodySum zs = sm := ⟨_, rfl⟩
  have HB := Lib.hid (show Calls Try.prog 16 #[.slice a len cap] W (fun e W' => e = .returned (.int .i64 sm) ∧ W' = W) by rw [← hsm]; exact implBodySum_c a len cap zs W hN)
  by_cases hneg : sm < 0
  · have hbad : bodyOk zs = false := by
      rw [Bool.eq_false_iff]; intro hc
      rw [bodySum_ok hc] at hsm
      have := sumB_range zs
      omega
    have hr := Lib.hid (show frameOf zs = [] by unfold frameOf; rw [hbad]; rfl)
    clear hbad
    clear hsm hN
    go_enter Try.func19, Try.ntmps19
    go_wp2_with fail
    refine HB.out.mono ?_
    rintro e w' ⟨rfl, rfl⟩
    go_wp2
    refine bodyPost_ret (v := .slice none 0 0) (by simp [results, Try.f19, go_sem]) rfl ⟨⟨_, rfl, ?_⟩, Below.refl _ _⟩
    rw [hr.out]
    exact World.ownsRow_nil _ _ _ _
  · have hpos : 0 ≤ sm := by omega
    have hok : bodyOk zs = true := by
      cases hc : bodyOk zs with
      | true => rfl
      | false => rw [bodySum_bad hc] at hsm; omega
    have hlz := bodyOk_len hok
    have HR := Lib.hid (show frameOf zs = ([[(len : Int)], zs, [sm]] : List (List Int)).flatten by
      unfold frameOf; rw [if_pos hok]; unfold frame; rw [← hsm, bodySum_ok hok, hN.1]; simp)
    have HCC := Lib.hid (fun W' T (h : TabAt W' (some ⟨T, 0, none⟩) 3 [[(len : Int)], zs, [sm]]) => concat_c (some ⟨T, 0, none⟩) 3 3 [[(len : Int)], zs, [sm]] (by omega) (by simp; omega) (by simp) (by
      intro b hb
      simp at hb
      rcases hb with rfl | rfl | rfl
      · exact Nat.le_refl 1
      · exact hlz.1
      · exact Nat.le_refl 1) W' h)
    have HP := Lib.hid (parts_tab (cap := cap) (s := sm) hN)
    clear hneg hsm hN hok hlz
    go_enter Try.func19, Try.ntmps19
    go_wp2_with fail
    refine HB.out.mono ?_
    rintro e w' ⟨rfl, rfl⟩
    go_wp2_with fail
    have HB3 := Lib.hid (below_next (below_next (below_box w' (.cells #[.int .i64 len] 3)) (below_box _ (.cells #[.int .i64 sm] 3))) (below_box _ (.cells #[.slice (some ⟨w'.heap.size, 0, none⟩) 1 1, .slice a len cap, .slice (some ⟨w'.heap.size + 1, 0, none⟩) 1 1] 23)))
    refine (HCC.out _ (w'.heap.size + 1 + 1) HP.out).mono ?_
    rintro e W5 ⟨⟨sl, rfl, hown⟩, hb5⟩
    have HO := Lib.hid hown
    have HB5 := Lib.hid (below_next HB3.out hb5)
    clear hown hb5
    go_wp2
    refine bodyPost_ret (v := sl) (by simp [results, Try.f19, go_sem]) rfl ⟨⟨sl, rfl, ?_⟩, HB5.out⟩
    rw [HR.out]
    exact own_mono1 HO.out HB3.out.size

def IFramesRel (bs : List (List Int)) (W1 : World) (o i : Value) (wr : World) : Prop :=
  ∃ n : Nat, i = .int .i64 n ∧ n ≤ bs.length ∧ Hid ((bs.take n).all bodyOk = true) ∧ wr.ownsRow W1.heap.size 3 1 o (framesL (bs.take n)).length (intsV (framesL (bs.take n))) ∧ Hid (Below W1.heap.size W1 wr)

theorem framesOf_many {bs : List (List Int)} (h : 40 < bs.length) : framesOf bs = none := by
  unfold framesOf
  rw [if_neg]
  intro hc
  simp only [Bool.and_eq_true, decide_eq_true_eq] at hc
  omega

theorem fpost_none {bs : List (List Int)} {W w' : World} (h : framesOf bs = none) (hb : Below W.heap.size W w') : FPost (framesOf bs) W (.returned (.tuple #[.slice none 0 0, .bool false])) w' :=
  ⟨_, [], false, rfl, .inr ⟨rfl, h, rfl⟩, World.ownsRow_nil _ _ _ _, hb⟩

set_option maxHeartbeats 2000000 in
set_option maxRecDepth 100000 in
theorem implFramesOf_c (a : Option Addr) (len cap : Nat) (bs : List (List Int)) (hl : len ≤ 2097152) (hs : ShortT 2097152 bs) (W : World) (hN : TabAt W a len bs) :
    Calls Try.prog 24 #[.slice a len cap] W (FPost (framesOf bs) W) := by
  obtain ⟨i0, hi, hz0, hz1, hz2⟩ := info_parts infoInt
  have HE := Lib.hid hN.1
  have HN := Lib.hid hN
  have HS := Lib.hid hs
  by_cases hmany : 40 < len
  · have HG := Lib.hid (framesOf_many (bs := bs) (by rw [hN.1]; exact hmany))
    have hmany' : (40 : Int) < len := by omega
    clear hN hs
    go_enter Try.func24, Try.ntmps24
    go_wp2
    refine bodyPost_ret (v := .tuple #[.slice none 0 0, .bool false]) (by simp [results, Try.f24, go_sem]) rfl (fpost_none HG.out (Below.refl _ _))
  · have hl40 : (len : Int) ≤ 40 := by omega
    have hl' : len ≤ 40 := by omega
    clear hN hs hmany hl
    go_enter Try.func24, Try.ntmps24
    go_wp2
    go_loopw [4, 13] (fun o i wr => IFramesRel bs W o i wr) (fun _ i _ => len - (intOf i).toNat)
    case atStart => exact ⟨0, rfl, by omega, by simp [Hid], World.ownsRow_nil _ _ _ _, Below.refl _ _⟩
    case round =>
      obtain ⟨i, rfl, hi1, HA, hown, HB⟩ := hrel
      by_cases hlt : i < len
      · obtain ⟨b, off, z, ai, ci, rfl, hz, c0, hzi⟩ := (HN.out.keep HB.out).at hlt
        have hlt' : (i : Int) < len := by omega
        have hil : (i : Int) ≤ 40 := by omega
        have HLT := Lib.hid hlt
        have hzl := HS.out z (List.mem_of_getElem? hz)
        have HFR := Lib.hid (implFrameOf_c ai z.length ci z hzl wr hzi)
        have HO := Lib.hid hown
        by_cases hp : bodyOk z = true
        · have hzlen := bodyOk_len hp
          have HTK := Lib.hid (takeT_next hz)
          have HAN := Lib.hid (show (bs.take (i + 1)).all bodyOk = true by rw [takeT_next hz, List.all_append, show (bs.take i).all bodyOk = true from HA.out]; simp [hp])
          have HFL := Lib.hid (show (framesL (bs.take i)).length ≤ 18 * 2097152 by have := framesL_len HA.out; rw [List.length_take] at this; omega)
          have hfl18 := frame_length z
          have HFZ := Lib.hid (show (frame z).length ≤ 18 by omega)
          have HFO := Lib.hid (show frameOf z = frame z by unfold frameOf; rw [hp]; rfl)
          obtain ⟨fl, hfl⟩ : ∃ fl, fl = (frame z).length := ⟨_, rfl⟩
          have hfe : ((fl : Int) == 0) = false := beq_eq_false_iff_ne.2 (by omega)
          have hf0 : (frame z).length ≠ 0 := by omega
          clear hlt hi1 hz hzi hown hfl18 hp
          go_wp2_with fail
          refine HFR.out.mono ?_
          rintro e w2 ⟨⟨s2, rfl, ho2⟩, hb2⟩
          rw [HFO.out] at ho2
          rcases own_casesT ho2 with ⟨_, h0⟩ | ⟨g2, cap2, rfl⟩
          · exact absurd h0 hf0
          have HO2 := Lib.hid (own_below1 HO.out hb2)
          have HOX := Lib.hid ho2
          have hlt0 := HO2.out.lt
          have HB2 := Lib.hid (below_next HB.out hb2)
          rw [← hfl] at HOX HFZ ⊢
          have HFI := Lib.hid hfl
          clear ho2 hb2 hf0 hfl
          go_wp2_with (at_builtin; refine wpList_append_own _ rfl _ _ 23 rfl W.heap.size 3 i0 (.int .i64 0) 1 8 Try.underlying23 hi hz0 hz1 hz2 rfl (by decide) _ _ _ rfl HO2.out ⟨g2, 0, none⟩ _ cap2 (intsV (frame z)) rfl (by rw [intsV_length, ← HFI.out]; omega) (own_cells1 (by rw [← HFI.out]; exact HOX.out)) (intsV_cells _) (by have := HFL.out; have := HFZ.out; unfold maxLen; omega) (by have := HFL.out; have := HFZ.out; omega) HB2.out.size ?_; intro v5 w5 ho5 hg5 hn5)
          have B5 : Below W.heap.size W w5 := HB2.out.grown hg5 HB2.out.size (fun g e => (hlt0 g e).1)
          rw [HFI.out] at ho5
          go_roundw
          case rel => exact ⟨i + 1, by push_cast; rfl, by have := HE.out; have := HLT.out; omega, HAN.out, by rw [HTK.out, framesL_append, framesL_one]; exact own_join1 ho5, B5⟩
          case measure => have := HLT.out; simp [intOf]; omega
        · have hpf : bodyOk z = false := by simpa using hp
          have HG := Lib.hid (framesOf_none hz hpf)
          have HFO := Lib.hid (show frameOf z = [] by unfold frameOf; rw [hpf]; rfl)
          clear hlt hi1 hz hzi hown hp hpf
          go_wp2_with fail
          refine HFR.out.mono ?_
          rintro e w2 ⟨⟨s2, rfl, ho2⟩, hb2⟩
          rw [HFO.out] at ho2
          have HB2 := Lib.hid (below_next HB.out hb2)
          obtain ⟨a2, c2, rfl, -⟩ := ints_of_own ho2
          clear ho2 hb2
          go_wp2
          refine bodyPost_ret (v := .tuple #[.slice none 0 0, .bool false]) (by simp [results, Try.f24, go_sem]) rfl (fpost_none HG.out HB2.out)
      · have hge : (len : Int) ≤ i := by omega
        have htk : bs.take i = bs := List.take_of_length_le (by have := HE.out; omega)
        rw [htk] at HA hown
        have HG := Lib.hid (show framesOf bs = some (framesL bs) by unfold framesOf; rw [show bs.all bodyOk = true from HA.out, decide_eq_true (by rw [HE.out]; omega)]; rfl)
        have HO := Lib.hid hown
        clear hi1 hlt htk hown
        go_wp2
        refine bodyPost_ret (v := .tuple #[u4, .bool true]) (by simp [results, Try.f24, go_sem]) rfl ⟨_, framesL bs, true, rfl, .inl ⟨rfl, HG.out⟩, HO.out, HB.out⟩

end Go.Proofs.Ytdlkofgapjdeaaa
