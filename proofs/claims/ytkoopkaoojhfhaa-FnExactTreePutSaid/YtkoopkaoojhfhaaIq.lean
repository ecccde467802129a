/-
  WALKS: impl.TreePut.
-/
import Derived.Test.YtkoopkaoojhfhaaIp
import Derived.Test.YtkoopkaoojhfhaaNo
import Derived.Test.YtkoopkaoojhfhaaTt
namespace Go.Proofs.Ytkoopkaoojhfhaa
open Go.RowKit
set_option linter.unusedVariables false

theorem treePut_bad {ns : List Nd} {p : ByteArray} {k v : Int} (h : validT ns = false ∨ ¬ 1 ≤ depB p ∨ validB k v = false) : treePut ns p k v = none := by
  unfold treePut
  rcases h with h | h | h <;> simp [h]

theorem tput_nil {r : Option (List Nd)} {base : Nat} {W w : World} (hr : r = none) (hB : Below W.heap.size W w) : TPost r base W (.returned (.tuple #[.slice none 0 0, .bool false])) w :=
  ⟨_, [], false, rfl, .inr ⟨rfl, hr, rfl⟩, World.ownsRow_nil _ _ _ _, hB⟩

theorem lst_short {F : List UInt8 → Int × Int} : Short 8 (lst F 4 []) := by
  intro n hn
  obtain ⟨c, u, h1, h2, h3, rfl⟩ := mem_lst.1 hn
  exact pB_size (v := [] ++ c :: u) ⟨by rw [List.nil_append, List.length_cons]; omega, h2⟩

theorem Short.mono {m m' : Nat} {ns : List Nd} (h : Short m ns) (hm : m ≤ m') : Short m' ns := fun n hn => Nat.le_trans (h n hn) hm

set_option maxHeartbeats 4000000 in
set_option maxRecDepth 100000 in
theorem implTreePut_c (a : Option Addr) (len cap : Nat) (ns : List Nd) (p : ByteArray) (k v : Int) (hl : len ≤ 2097152) (hs : Short 2097152 ns) (hp : p.size ≤ 2097152) (W : World) (hN : NodesAt W a len ns) :
    Calls Try.prog 23 #[.slice a len cap, .string p, con k v] W (TPost (treePut ns p k v) W.heap.size W) := by
  have H := Lib.hid (fun W1 (hb : Below W.heap.size W W1) => treeOf_c a len cap ns hl hs W1 (hN.keep hb))
  obtain ⟨d, hd⟩ : ∃ d, depB p = d := ⟨_, rfl⟩
  have HP := Lib.hid (fun W1 => show Calls Try.prog 55 #[.string p] W1 (fun e w' => e = .returned (.int .i64 d) ∧ Below W1.heap.size W1 w') by rw [← hd]; exact pathDepth_c p (by omega) W1)
  have HD := Lib.hid hd
  have HVC := Lib.hid (fun W1 => implValid_c k v W1)
  obtain ⟨vb, hvb⟩ : ∃ vb, validB k v = vb := ⟨_, rfl⟩
  rw [hvb] at HVC
  have HVB := Lib.hid hvb
  clear hN hs hd hvb
  unfold con
  go_enter Try.func23, Try.ntmps23
  go_wp2_with fail
  refine (H.out _ (below_box _ _)).mono ?_
  rintro e W2 ⟨hB, h⟩
  have HB2 := Lib.hid (below_next (below_box W _) hB)
  have q0 := box_cell hB 0
  have q1 := box_cell hB 1
  simp at q0 q1
  rcases h with ⟨hv, rfl⟩ | ⟨hv, A, b, rfl, hA0, hT, hA⟩
  · have HG := Lib.hid (treePut_bad (p := p) (k := k) (v := v) (.inl hv))
    clear hv hB
    go_wp2
    refine bodyPost_ret (v := .tuple #[.slice none 0 0, .bool false]) (by simp [results, Try.f23, go_sem]) rfl (tput_nil HG.out HB2.out)
  · have HV := Lib.hid hv
    have HT := Lib.hid hT
    have HA := Lib.hid hA
    have HA0 := Lib.hid hA0
    have hlt2 : W.heap.size < W2.heap.size := by have := hB.size; simp at this; omega
    clear hv hB hT hA hA0
    go_wp2_with fail
    refine (HP.out _).mono ?_
    rintro e W3 ⟨rfl, hb3⟩
    have r0 := cell_kept hb3 q0
    have r1 := cell_kept hb3 q1
    have HB3 := Lib.hid (below_next HB2.out hb3)
    have HT3 := Lib.hid (HT.out.below hb3)
    have hlt3 : W.heap.size < W3.heap.size := by have := hb3.size; omega
    clear q0 q1 hb3
    by_cases hd1 : d ≤ 0
    · have HG := Lib.hid (treePut_bad (ns := ns) (p := p) (k := k) (v := v) (.inr (.inl (by rw [HD.out]; omega))))
      go_wp2
      refine bodyPost_ret (v := .tuple #[.slice none 0 0, .bool false]) (by simp [results, Try.f23, go_sem]) rfl (tput_nil HG.out HB3.out)
    · have hd0 : 0 < d := by omega
      have hdd : decide (d ≤ 0) = false := decide_eq_false hd1
      clear hd1
      go_wp2_with fail
      refine (HVC.out _).mono ?_
      rintro e W5 ⟨rfl, hb5⟩
      have u0 := cell_kept hb5 r0
      have u1 := cell_kept hb5 r1
      have HB5 := Lib.hid (below_next HB3.out hb5)
      have HT5 := Lib.hid (HT3.out.below hb5)
      have hN5 : W.heap.size < W5.heap.size := by have := hb5.size; omega
      clear r0 r1 hb5
      cases vb with
      | false =>
        have HG := Lib.hid (treePut_bad (ns := ns) (p := p) (k := k) (v := v) (.inr (.inr HVB.out)))
        go_wp2
        refine bodyPost_ret (v := .tuple #[.slice none 0 0, .bool false]) (by simp [results, Try.f23, go_sem]) rfl (tput_nil HG.out HB5.out)
      | true =>
        obtain ⟨w, hw, hpw⟩ := vpB_word (vp_of_depth (p := p) (by rw [HD.out]; omega))
        have HW := Lib.hid hw
        have HPW := Lib.hid hpw
        have HNE := Lib.hid ((word_depth hw).1 (by rw [← hpw, HD.out]; omega))
        have HAW := Lib.hid (show Away A W.heap.size from fun u e => by have := HA.out u _ e; rw [World.size_alloc] at this; omega)
        have HS0 := Lib.hid (show W5.drew.cell? ⟨W.heap.size, 0, none⟩ = some (.int .i64 k) ∧ W5.drew.cell? ⟨W.heap.size, 1, none⟩ = some (.int .i64 v) from ⟨u0, u1⟩)
        have HAT := Lib.hid (show Calls Try.prog 50 #[.pointer (some ⟨b, 0, none⟩), .string p] W5.drew (AtPost A (Fof ns) w W5.drew) by
          rw [hpw]; exact at_c A _ w hw W5.drew (HT5.out.kept (W' := W5.drew) fun _ _ _ => rfl) _ HA0.out)
        clear hw hpw
        go_upto_region 4 with (fail)
        refine wp_region_held_drew (S := (fun w' => w'.cell? ⟨W.heap.size, 0, none⟩ = some (.int .i64 k) ∧ w'.cell? ⟨W.heap.size, 1, none⟩ = some (.int .i64 v))) (by kernel_rfl) HS0.out (fun hH => ?_)
        refine wpAnyH_take (i := 0) (oi := _) (v := ?_) rfl (by kernel_rfl) (by kernel_rfl) (by kernel_rfl) (fun _ _ _ h => h) (Or.inl ⟨by rfl, ?_⟩) (by assumption) ?_
        rotate_left
        · (intro w hSw; (try dsimp only at hSw); go_simp; try with_reducible rfl)
        try simp only [Act.put, List.getElem_toArray, List.getElem_cons_zero, List.setIfInBounds_toArray, List.set_cons_zero, List.set_cons_succ]
        refine wpAnyH_take (i := 1) (oi := _) (v := ?_) rfl (by kernel_rfl) (by kernel_rfl) (by kernel_rfl) (fun _ _ _ h => h) (Or.inl ⟨by rfl, ?_⟩) (by assumption) ?_
        rotate_left
        · (intro w hSw; (try dsimp only at hSw); go_simp; try with_reducible rfl)
        try simp only [Act.put, List.getElem_toArray, List.getElem_cons_zero, List.getElem_cons_succ, List.setIfInBounds_toArray, List.set_cons_zero, List.set_cons_succ]
        refine wpAnyH_take (i := 3) (oi := _) (v := ?_) rfl (by kernel_rfl) (by kernel_rfl) (by kernel_rfl) (fun _ _ _ h => h) (Or.inl ⟨by rfl, ?_⟩) (by assumption) ?_
        rotate_left
        · (intro w hSw; (try dsimp only at hSw); go_simp; try with_reducible rfl)
        try simp only [Act.put, List.getElem_toArray, List.getElem_cons_zero, List.getElem_cons_succ, List.setIfInBounds_toArray, List.set_cons_zero, List.set_cons_succ]
        refine wpAnyH_ready (rs := [2]) (by kernel_rfl) (by simp) ?_
        refine AllReadyH.cons rfl (fun K hK => ?_) (AllReadyH.nil)
        go_simp
        go_at_call 50; (with_reducible refine (HAT.out).mono ?_); rintro e W6 ⟨A6, b6, rfl, hb6, hT6, hX6, hO6⟩
        refine hK.out _ _ ⟨(off_cell2 hO6 hN5 HAW.out 0).trans u0, (off_cell2 hO6 hN5 HAW.out 1).trans u1⟩ (fun hHeld => ?_)
        try simp only [Act.put, List.getElem_toArray, List.getElem_cons_zero, List.getElem_cons_succ, List.setIfInBounds_toArray, List.set_cons_zero, List.set_cons_succ]
        have f60 := hT6.frozen hb6 0
        have f61 := hT6.frozen hb6 1
        have c60 := hT6.cell hb6 0
        have c61 := hT6.cell hb6 1
        simp only [plc, List.getElem?_toArray, List.getElem?_cons_zero, List.getElem?_cons_succ] at c60 c61
        refine wpAnyH_take (i := 4) (oi := _) (v := ?_) rfl (by kernel_rfl) (by kernel_rfl) (by kernel_rfl) (fun _ _ _ h => h) (Or.inl ⟨by rfl, ?_⟩) (by assumption) ?_
        rotate_left
        · (intro w hSw; (try dsimp only at hSw); go_simp; try with_reducible rfl)
        try simp only [Act.put, List.getElem_toArray, List.getElem_cons_zero, List.getElem_cons_succ, List.setIfInBounds_toArray, List.set_cons_zero, List.set_cons_succ]
        refine wpAnyH_take (i := 5) (oi := _) (v := ?_) rfl (by kernel_rfl) (by kernel_rfl) (by kernel_rfl) (fun _ _ _ h => h) (Or.inl ⟨by rfl, ?_⟩) (by assumption) ?_
        rotate_left
        · (intro w hSw; (try dsimp only at hSw); go_simp; try with_reducible rfl)
        try simp only [Act.put, List.getElem_toArray, List.getElem_cons_zero, List.getElem_cons_succ, List.setIfInBounds_toArray, List.set_cons_zero, List.set_cons_succ]
        refine wpAnyH_ready (rs := [6]) (by kernel_rfl) (by simp) ?_
        refine AllReadyH.cons rfl (fun K hK => ?_) (AllReadyH.nil)
        go_simp
        have hnb : W.heap.size ≠ b6 := fun e => (ext_away hX6 (show W.heap.size < W5.drew.heap.size from hN5) HAW.out) w (by rw [e]; exact hb6)
        have hfrom := ext_from hX6 (show W.heap.size ≤ W5.drew.heap.size from HB5.out.size) (fun u c e => by have := HA.out u c e; rw [World.size_alloc] at this; omega)
        have HT7 := Lib.hid (hT6.write hb6 k v)
        have HB7 := Lib.hid (show Below W.heap.size W ((W6.setCell ⟨b6, 0, none⟩ (.int .i64 k)).setCell ⟨b6, 1, none⟩ (.int .i64 v)) from
          ((HB5.out.trans (show Below W.heap.size W5 W6 from ⟨hO6.os, hO6.tape, hO6.output, hO6.size, fun j hj => hO6.block j (by have := HB5.out.size; show j < W5.heap.size; omega) fun u e => by have := HA.out u j e; rw [World.size_alloc] at this; omega⟩)).setCell (hfrom w b6 hb6) _).setCell (hfrom w b6 hb6) _)
        have HR7 := Lib.hid ((hX6 [] _).1 HA0.out)
        refine hK.out _ _ ⟨(past2 hnb).trans ((off_cell2 hO6 hN5 HAW.out 0).trans u0), (past2 hnb).trans ((off_cell2 hO6 hN5 HAW.out 1).trans u1)⟩ (fun hHeld => ?_)
        try simp only [Act.put, List.getElem_toArray, List.getElem_cons_zero, List.getElem_cons_succ, List.setIfInBounds_toArray, List.set_cons_zero, List.set_cons_succ]
        refine wpAnyH_done (by kernel_rfl) ?_ _
        clear hK hO6 hX6 hT6 hb6 f60 f61 c60 c61 u0 u1 hfrom hHeld hnb
        generalize (W6.setCell ⟨b6, 0, none⟩ (.int .i64 k)).setCell ⟨b6, 1, none⟩ (.int .i64 v) = W7 at HT7 HB7 ⊢
        obtain ⟨out, hout⟩ : ∃ out, out = lst (setF (Fof ns) w (k, v)) 4 [] := ⟨_, rfl⟩
        have HOUT := Lib.hid (show out = putL ns p k v by rw [hout, HPW.out]; exact put_lst HV.out HW.out HNE.out k v)
        have HSH := Lib.hid (show Short 2097152 out by rw [hout]; exact lst_short.mono (by omega))
        have HLN := Lib.hid (show out.length ≤ 4096 by rw [hout]; exact lst_le (by omega) _)
        have HND := Lib.hid (nodes_c A6 _ 4 [] b W7 rfl HT7.out HR7.out)
        have HND2 := Lib.hid (show Calls Try.prog 59 #[.pointer (some ⟨b, 0, none⟩), .string ⟨#[47]⟩] W7 (fun e W' => OwnsNodes W7.heap.size out e W' ∧ Below W7.heap.size W7 W') by rw [hout]; exact HND.out)
        clear hout HND
        go_wp2_with fail
        refine HND2.out.mono ?_
        rintro e W8 ⟨⟨sl, rfl, ho8⟩, hb8⟩
        obtain ⟨a8, cap8, rfl, hn8⟩ := nodes_of_own ho8
        obtain ⟨vt, hvt⟩ : ∃ vt, validT out = vt := ⟨_, rfl⟩
        have HTV := Lib.hid (implTreeValid_c a8 out.length cap8 out (by have := HLN.out; omega) HSH.out W8 hn8)
        rw [hvt] at HTV
        have HVT := Lib.hid hvt
        have HO8 := Lib.hid ho8
        have HB8 := Lib.hid (below_next HB7.out hb8)
        clear ho8 hb8 hn8 hvt
        go_wp2_with fail
        refine HTV.out.mono ?_
        rintro e W9 ⟨rfl, hb9⟩
        have HO9 := Lib.hid (own_below HO8.out hb9)
        have HB9 := Lib.hid (below_next HB8.out hb9)
        clear hb9
        cases vt with
        | false =>
          have HG := Lib.hid (show treePut ns p k v = none by
            unfold treePut
            rw [← HOUT.out, show validT out = false from HVT.out]; simp)
          go_wp2
          refine bodyPost_ret (v := .tuple #[.slice none 0 0, .bool false]) (by simp [results, Try.f23, go_sem]) rfl (tput_nil HG.out HB9.out)
        | true =>
          have HG := Lib.hid (show treePut ns p k v = some out by
            unfold treePut
            rw [← HOUT.out, show validT out = true from HVT.out, show validT ns = true from HV.out, show validB k v = true from HVB.out, show decide (1 ≤ depB p) = true from decide_eq_true (by rw [HD.out]; omega)]; rfl)
          have hsz7 : W.heap.size ≤ W7.heap.size := HB7.out.size
          go_wp2
          refine bodyPost_ret (v := .tuple #[.slice a8 out.length cap8, .bool true]) (by simp [results, Try.f23, go_sem]) rfl ⟨_, out, true, rfl, .inl ⟨rfl, HG.out⟩, own_mono HO9.out hsz7, HB9.out⟩

end Go.Proofs.Ytkoopkaoojhfhaa
