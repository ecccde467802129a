/-
  WALKS: the program's cursor.frame.
-/
import Derived.Test.YtdlkofgapjdeaaaFd
import Derived.Test.YtdlkofgapjdeaaaGa
namespace Go.Proofs.Ytdlkofgapjdeaaa
open Go.RowKit
set_option linter.unusedVariables false

/-- What a look at the next frame leaves. -/
def FramePost (a : Option Addr) (len cap : Nat) (zs : List Int) (B p : Nat) (W : World) (e : Ending) (w' : World) : Prop :=
  (scanL (zs.drop p) = ([], 0) ∧ e = .returned (.tuple #[.slice none 0 0, .bool false]) ∧ Below W.heap.size W w') ∨
    ∃ (m : Nat) (sl : Value), zs[p]? = some (m : Int) ∧ headOk (m : Int) (zs.drop (p + 1)) = true ∧ p + m + 2 ≤ len ∧ e = .returned (.tuple #[sl, .bool true]) ∧
      w'.ownsRow W.heap.size 3 1 sl ((zs.drop (p + 1)).take m).length (intsV ((zs.drop (p + 1)).take m)) ∧ CurAt w' B a len cap zs (p + m + 2) ∧ W.grownBy w' (some B)

theorem bodySum_nil : bodySum [] = -1 := rfl

/-- The sum's sign tells whether it is a body. -/
theorem bodySum_neg {zs : List Int} (h : bodySum zs < 0) : bodyOk zs = false := by
  rw [Bool.eq_false_iff]
  intro hc
  rw [bodySum_ok hc] at h
  have := sumB_range zs
  omega
theorem bodySum_pos {zs : List Int} (h : 0 ≤ bodySum zs) : bodyOk zs = true := by
  cases hc : bodyOk zs with
  | true => rfl
  | false => rw [bodySum_bad hc] at h; omega

theorem fr_below {W W1 W2 : World} (h : Below W.heap.size W W1) (hg : W1.grownBy W2 (some W.heap.size)) : Below W.heap.size W W2 :=
  h.grown hg h.size (fun k e => by cases e; exact Nat.le_refl _)

theorem ints_none (W : World) : IntsAt W none 0 [] := ⟨rfl, .inl rfl⟩

theorem headOk_part {zs : List Int} {p m : Nat} (hlen : p + 1 + m ≤ zs.length) : headOk (m : Int) (zs.drop (p + 1)) = (bodyOk ((zs.drop (p + 1)).take m) && decide (zs[p + 1 + m]? = some (sumB ((zs.drop (p + 1)).take m)))) := by
  have e1 : (m : Int).toNat = m := by omega
  have e2 : (zs.drop (p + 1))[m]? = zs[p + 1 + m]? := by rw [List.getElem?_drop]
  have hbl : ((zs.drop (p + 1)).take m).length = m := by rw [List.length_take, List.length_drop]; omega
  generalize hb : (zs.drop (p + 1)).take m = b at hbl ⊢
  rw [Bool.eq_iff_iff, headOk_iff]
  simp only [e1, e2, hb, Bool.and_eq_true, decide_eq_true_eq, List.length_drop]
  constructor
  · rintro ⟨_, _, h3, h4⟩
    exact ⟨h3, h4⟩
  · rintro ⟨h3, h4⟩
    have := bodyOk_len h3
    have := (List.getElem?_eq_some_iff.1 h4).1
    exact ⟨by omega, by omega, h3, h4⟩

set_option maxHeartbeats 2000000 in
theorem frame_c (a : Option Addr) (len cap : Nat) (zs : List Int) (B p : Nat) (hl : len ≤ 2097152) (hlc : len ≤ cap) (hcm : cap ≤ maxLen) (W : World) (hC : CurAt W B a len cap zs p) :
    Calls Try.prog 43 #[.pointer (some ⟨B, 0, none⟩)] W (FramePost a len cap zs B p W) := by
  have HC := Lib.hid hC
  obtain ⟨c0, c1, -, -, hp, hI, -⟩ := hC
  have HW0 := Lib.hid (CurAt.new (cap := cap) hp hI)
  have HN := Lib.hid (fun W' D q (h : CurAt W' D a len cap zs q) => next_c a len cap zs D q hl W' h)
  have HT := Lib.hid (fun W' D q n (h : CurAt W' D a len cap zs q) => take_c a len cap zs D q n hl hlc hcm W' h)
  have HSB := Lib.hid (fun b n c ys W' (h : IntsAt W' b n ys) => implBodySum_c b n c ys W' h)
  have HSN := Lib.hid (fun W' => show Calls Try.prog 16 #[.slice none 0 0] W' (fun e w' => e = .returned (.int .i64 (-1)) ∧ w' = W') from implBodySum_c none 0 0 [] W' (ints_none W'))
  have HE := Lib.hid hI.1
  clear hI hp
  go_enter Try.func43, Try.ntmps43
  go_wp2_with fail
  refine (HN.out _ _ _ HW0.out).mono ?_
  rintro e W2 ⟨h2, hg2⟩
  have HB2 := Lib.hid (fr_below (below_box W _) hg2)
  clear hg2
  rcases h2 with ⟨hpl, rfl, hC2⟩ | ⟨z, hz, rfl, hC2⟩
  · have HS := Lib.hid (show scanL (zs.drop p) = ([], 0) by rw [List.drop_eq_nil_of_le (by have := HE.out; omega)]; rfl)
    have HC2 := Lib.hid hC2
    clear hpl hC2
    go_wp2_with fail
    refine (HT.out _ _ _ _ HC2.out).mono ?_
    rintro e W3 ⟨h3, hg3⟩
    have HB3 := Lib.hid (HB2.out.grown hg3 HB2.out.size (fun k e => by cases e; exact Nat.le_refl _))
    clear hg3
    rcases h3 with ⟨_, rfl, hC3⟩ | ⟨m, hm, _⟩
    · clear hC3
      go_wp2_with fail
      refine (HSN.out _).mono ?_
      rintro e w3 ⟨rfl, rfl⟩
      go_wp2
      refine bodyPost_ret (v := .tuple #[.slice none 0 0, .bool false]) (by simp [results, Try.f43, go_sem]) rfl (.inl ⟨HS.out, rfl, HB3.out⟩)
    · omega
  · have HZ := Lib.hid hz
    have HC2 := Lib.hid hC2
    clear hz hC2
    go_wp2_with fail
    refine (HT.out _ _ _ _ HC2.out).mono ?_
    rintro e W3 ⟨h3, hg3⟩
    have HB3 := Lib.hid (HB2.out.grown hg3 HB2.out.size (fun k e => by cases e; exact Nat.le_refl _))
    clear hg3
    rcases h3 with ⟨hnm, rfl, hC3⟩ | ⟨m, rfl, hpm, b, rfl, hbd, hC3⟩
    · have HS := Lib.hid (scan_stop HZ.out (by
        rw [Bool.eq_false_iff]; intro hc
        obtain ⟨q1, q2, _⟩ := (headOk_iff _ _).1 hc
        rw [List.length_drop, HE.out] at q2
        omega))
      clear hC3 hnm
      go_wp2_with fail
      refine (HSN.out _).mono ?_
      rintro e w3 ⟨rfl, rfl⟩
      go_wp2
      refine bodyPost_ret (v := .tuple #[.slice none 0 0, .bool false]) (by simp [results, Try.f43, go_sem]) rfl (.inl ⟨HS.out, rfl, HB3.out⟩)
    · have HPM := Lib.hid hpm
      have HBD := Lib.hid hbd
      have HC3 := Lib.hid hC3
      have HHO := Lib.hid (headOk_part (zs := zs) (p := p) (m := m) (by rw [HE.out]; exact hpm))
      have hbl : ((zs.drop (p + 1)).take m).length = m := by rw [List.length_take, List.length_drop, HE.out]; omega
      obtain ⟨bd, hbe⟩ : ∃ bd, bd = (zs.drop (p + 1)).take m := ⟨_, rfl⟩
      rw [← hbe] at HHO hbl HBD
      have HBE := Lib.hid hbe
      have HBL := Lib.hid hbl
      clear hpm hbd hC3 hbe hbl
      obtain ⟨sm, hsm⟩ : ∃ sm, bodySum bd = sm := ⟨_, rfl⟩
      have HSM := Lib.hid hsm
      have HSX := Lib.hid (show Calls Try.prog 16 #[.slice b m (cap - (p + 1))] W3 (fun e w' => e = .returned (.int .i64 sm) ∧ w' = W3) by rw [← hsm]; exact implBodySum_c b m _ bd W3 (HBD.out W3 HC3.out.ints))
      clear hsm
      go_wp2_with fail
      refine HSX.out.mono ?_
      rintro e w3 ⟨rfl, rfl⟩
      by_cases hneg : sm < 0
      · have HS := Lib.hid (scan_stop HZ.out (by rw [HHO.out, bodySum_neg (by rw [HSM.out]; exact hneg)]; rfl))
        go_wp2
        refine bodyPost_ret (v := .tuple #[.slice none 0 0, .bool false]) (by simp [results, Try.f43, go_sem]) rfl (.inl ⟨HS.out, rfl, HB3.out⟩)
      · have hpos : 0 ≤ sm := by omega
        have HOK := Lib.hid (bodySum_pos (zs := bd) (by rw [HSM.out]; exact hpos))
        have HSB2 := Lib.hid (show sumB bd = sm by rw [← HSM.out, bodySum_ok HOK.out])
        clear hneg
        go_wp2_with fail
        refine (HN.out _ _ _ HC3.out).mono ?_
        rintro e W4 ⟨h4, hg4⟩
        have HB4 := Lib.hid (HB3.out.grown hg4 HB3.out.size (fun k e => by cases e; exact Nat.le_refl _))
        clear hg4
        rcases h4 with ⟨hpl, rfl, hC4⟩ | ⟨x, hx, rfl, hC4⟩
        · have HS := Lib.hid (scan_stop HZ.out (by rw [HHO.out, List.getElem?_eq_none (by rw [HE.out]; omega)]; simp))
          have hne : ((-1 : Int) == sm) = false := beq_eq_false_iff_ne.2 (by omega)
          have hne' : ((-1 : Int) != sm) = true := by simp [bne, hne]
          clear hpl hC4
          go_wp2
          refine bodyPost_ret (v := .tuple #[.slice none 0 0, .bool false]) (by simp [results, Try.f43, go_sem]) rfl (.inl ⟨HS.out, rfl, HB4.out⟩)
        · by_cases hxs : x = sm
          · subst hxs
            have hm1 := (bodyOk_len HOK.out).1
            have HGO := Lib.hid (show headOk (m : Int) (zs.drop (p + 1)) = true by rw [HHO.out, hx, HSB2.out, HOK.out]; simp)
            have HLE := Lib.hid (show p + m + 2 ≤ len by have := (List.getElem?_eq_some_iff.1 hx).1; have := HE.out; omega)
            obtain ⟨bb, off, rfl⟩ : ∃ bb off, b = some ⟨bb, off, none⟩ := by
              obtain ⟨_, h0 | ⟨bb, off, hb, _⟩⟩ := HBD.out _ hC4.ints
              · have := HBL.out; omega
              · exact ⟨bb, off, hb⟩
            obtain ⟨d0, d1, -, -, -, -, -⟩ := hC4
            have HCB := Lib.hid (HC.out.keep HB4.out)
            obtain ⟨k0, k1, k2, k3, -, -, -⟩ := HCB.out
            have hne' : (x != x) = false := by simp
            have hBD : B ≠ W.heap.size := fun e => by have := HC.out.lt; omega
            clear hx hm1 c0 c1
            go_wp2_with fail
            have HC5 := Lib.hid (HCB.out.over (p + m + 2) HLE.out)
            rw [show ((p + m + 2 : Nat) : Int) = (p : Int) + 1 + m + 1 by push_cast; omega] at HC5
            have HG5 := Lib.hid (grownBy_trans (grownBy_trans (grownBy_none (below_grown HB4.out) (some B)) (grownBy_setCell_at W4 B 0 (.slice a len cap))) (grownBy_setCell_at _ B 1 (.int .i64 ((p : Int) + 1 + m + 1))))
            generalize (W4.setCell ⟨B, 0, none⟩ (.slice a len cap)).setCell ⟨B, 1, none⟩ (.int .i64 ((p : Int) + 1 + m + 1)) = W5 at HC5 HG5 ⊢
            clear d0 d1 k0 k1 k2 k3
            have hml : m ≤ 2097152 := by have := HLE.out; omega
            refine (clone_c bb off m _ bd hml W5 (HBD.out W5 HC5.out.ints)).mono ?_
            rintro e W6 ⟨⟨sl, rfl, hown⟩, hb6⟩
            have HO := Lib.hid hown
            have HB6 := Lib.hid hb6
            clear hown hb6
            go_wp2
            refine bodyPost_ret (v := .tuple #[sl, .bool true]) (by simp [results, Try.f43, go_sem]) rfl (.inr ⟨m, sl, HZ.out, HGO.out, HLE.out, rfl, ?_, HC5.out.keep HB6.out, grownBy_trans HG5.out (grownBy_none (below_grown HB6.out) _)⟩)
            rw [← HBE.out]
            exact own_mono1 HO.out HG5.out.size
          · have HS := Lib.hid (scan_stop HZ.out (by rw [HHO.out, hx, HSB2.out]; simp [hxs]))
            have hne : (x == sm) = false := beq_eq_false_iff_ne.2 hxs
            have hne' : (x != sm) = true := by simp [bne, hne]
            clear hx hC4 hxs
            go_wp2
            refine bodyPost_ret (v := .tuple #[.slice none 0 0, .bool false]) (by simp [results, Try.f43, go_sem]) rfl (.inl ⟨HS.out, rfl, HB4.out⟩)

end Go.Proofs.Ytdlkofgapjdeaaa
