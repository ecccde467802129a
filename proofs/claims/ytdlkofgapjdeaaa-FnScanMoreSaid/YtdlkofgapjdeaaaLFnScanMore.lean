/-
  laws.FnScanMore returns true for every input, and leaves its arguments as they were.
  Conditions: none.
-/
import Derived.Test.YtdlkofgapjdeaaaRows
import Derived.Test.YtdlkofgapjdeaaaGn
import Derived.WalkKit
import Derived.ProofKit
import Derived.OpenShut
import Derived.ShutString
import Derived.ChangeOld
import Derived.Below
namespace Go.Proofs.Ytdlkofgapjdeaaa.fnScanMore
open Go.ChangeShapes Go.WideShapes Go.ChangeAt Go.RowKit
open Go.ChangeMaps (open_string shut_string)
set_option linter.unusedVariables false

theorem own : ownKnob Try.prog.godebug = none := by kernel_rfl
theorem laidOut : laidOutB Try.prog = true := by kernel_rfl

theorem IntsPost.at2 {m : Nat} {W w' : World} {e : Ending} (h : IntsPost m W e w') : ∃ a c zs, e = .returned (.slice a zs.length c) ∧ IntsAt w' a zs.length zs ∧ zs.length ≤ m ∧ zs.length ≤ c ∧ c ≤ maxLen ∧ (a = none → c = 0) ∧ Below W.heap.size W w' := by
  obtain ⟨sl, zs, rfl, ho, hl, _, hb⟩ := h
  obtain ⟨a, c, rfl, hi⟩ := ints_of_own ho
  obtain ⟨a', c', he, h1, h2⟩ := own_caps ho
  cases he
  exact ⟨a, c, zs, rfl, hi, hl, h1, h2, ints_nil_cap ho, hb⟩

/-- Two numbers in a new block. -/
theorem lit2 (W : World) (x y : Int) : IntsAt (W.alloc (.cells #[.int .i64 x, .int .i64 y] 3)) (some ⟨W.heap.size, 0, none⟩) 2 [x, y] := by
  refine ⟨rfl, .inr ⟨W.heap.size, 0, rfl, fun i z hz => ?_⟩⟩
  rw [Nat.zero_add, World.cell?_alloc_new]
  match i, hz with
  | 0, hz => simp at hz; subst hz; rfl
  | 1, hz => simp at hz; subst hz; rfl
  | i + 2, hz => simp at hz

set_option maxHeartbeats 2000000 in
set_option maxRecDepth 100000 in
theorem walk (a0 : Option Addr) (len0 cap0 : Nat) (z0 : List Int) (w : World) (w0 : IsRow .u8 w a0 len0 cap0 z0) :
    Calls Try.prog 9 #[.slice a0 len0 cap0] w fun e w' => e = .returned (.bool true) ∧ Below w.heap.size w w' := by
  by_cases h : len0 ≤ 1048576
  · have hl : (len0 : Int) ≤ 1048576 := by omega
    have HD := Lib.hid (drawFramesScan_c a0 len0 cap0 z0 w w0)
    clear h w0
    go_enter Try.func9, Try.ntmps9
    go_wp2_with fail
    refine HD.out.mono ?_
    rintro e W1 hd
    obtain ⟨a, cap, zs, rfl, ht, hlen, hcl, hcm, hnil, hb1⟩ := IntsPost.at2 hd
    have HNIL := Lib.hid hnil
    clear hnil
    obtain ⟨bs, n, hsc⟩ : ∃ bs n, scanL zs = (bs, n) := ⟨_, _, rfl⟩
    have HSC := Lib.hid hsc
    have HSF := Lib.hid (scan_facts hsc)
    have HT := Lib.hid ht
    have HB1 := Lib.hid hb1
    have HCP := Lib.hid (And.intro hcl hcm)
    have HI := Lib.hid (show Calls Try.prog 22 #[.slice a zs.length cap] W1 (ScanPost (bs, n) W1) by rw [← hsc]; exact implFramesScan_c a zs.length cap zs (by omega) hcl hcm W1 ht)
    have HS := Lib.hid (fun W' (hb : Below W1.heap.size W1 W') => show Calls Try.prog 28 #[.slice a zs.length cap] W' (ScanPost (bs, n) W') by rw [← hsc]; exact specFramesScan_c a zs.length cap zs (by omega) hcl hcm W' (ht.keep hb))
    obtain ⟨ln, hln⟩ : ∃ ln, zs.length = ln := ⟨_, rfl⟩
    rw [hln] at HI HS HT HCP hlen HSF ⊢
    have HLN := Lib.hid hln
    clear hd ht hcl hcm hb1 hln hsc
    go_wp2_with fail
    refine HI.out.mono ?_
    rintro e W2 h2
    obtain ⟨a2, c2, rfl, ht2, hc2, hm2, hb2⟩ := h2.at
    have HT2 := Lib.hid (show TabAt W2 a2 bs.length bs from ht2)
    have HC2 := Lib.hid (show bs.length ≤ c2 ∧ c2 ≤ maxLen from ⟨hc2, hm2⟩)
    have HB2 := Lib.hid hb2
    clear h2 ht2 hc2 hm2 hb2
    dsimp only
    obtain ⟨bl, hbl⟩ : ∃ bl, bs.length = bl := ⟨_, rfl⟩
    rw [hbl] at HT2 HC2 HSF ⊢
    have HBL := Lib.hid hbl
    clear hbl
    go_wp2_with fail
    refine (HS.out _ HB2.out).mono ?_
    rintro e W3 h3
    obtain ⟨a3, c3, rfl, ht3, -, -, hb3⟩ := h3.at
    have HB3 := Lib.hid (below_next HB2.out hb3)
    have HT3 := Lib.hid (show TabAt W3 a3 bl bs by rw [← HBL.out]; exact ht3)
    have HT23 := Lib.hid (HT2.out.keep hb3)
    clear h3 ht3 hb3
    dsimp only
    rw [HBL.out]
    have hnn : ((n : Int) != n) = false := by simp
    have hnl : (n : Int) ≤ ln := by have := HSF.out.2.2.1; omega
    have hbn : (bl : Int) ≤ n := by have := HSF.out.2.2.2.1; omega
    have hl721 : (ln : Int) ≤ 721 := by omega
    have HST := Lib.hid (sameTable_c a2 a3 bl c2 c3 bs (by omega) ((shortT_ok HSF.out.1).mono (by omega)) W3 HT23.out HT3.out)
    go_wp2_with fail
    refine HST.out.mono ?_
    rintro e W4 ⟨rfl, hb4⟩
    have HB4 := Lib.hid (below_next HB3.out hb4)
    have HT4 := Lib.hid (HT23.out.keep hb4)
    have HI4 := Lib.hid (HT.out.keep HB4.out)
    clear hb4
    have hl2 : bl ≤ 721 := by omega
    have hcapb : (ln : Int) ≤ cap := by have := HCP.out.1; omega
    have hnc : (n : Int) ≤ cap := by omega
    have hcapb2 : cap ≤ 9223372036854775807 := Nat.le_trans HCP.out.2 (by unfold maxLen; omega)
    have hn721 : n ≤ 721 := by omega
    have hbl721 : (bl : Int) ≤ 721 := by omega
    have htl : (zs.take n).length = n := by rw [List.length_take, HLN.out]; omega
    have HTL := Lib.hid htl
    have HI5 := Lib.hid (ints_take HI4.out (k := n) (by omega))
    have HN4 := Lib.hid HNIL.out
    clear htl
    go_wp2_with (at_builtin; refine wpList_append_ints (by simp [Region.wanted, go_sem]) _ _ rfl W4.heap.size _ [] rfl (World.ownsRow_lit (e := 3) (size := 1) W4 #[] 0 (Nat.le_refl _) (by simp [maxLen]) rfl) a n cap (zs.take n) rfl (HI5.out.keep (below_box W4 _)) HN4.out (by have := HTL.out; simp; omega) (by simp) ?_; intro v7 w7 ho7 hg7; rw [List.nil_append] at ho7)
    have HB7 := Lib.hid ((below_box W4 _).grown hg7 (by simp) (fun k e => by cases e; exact Nat.le_refl _))
    have HO7 := Lib.hid ho7
    have HFR := Lib.hid (show Calls Try.prog 19 #[.slice (some ⟨w7.heap.size, 0, none⟩) 2 2] (w7.alloc (.cells #[.int .i64 5, .int .i64 6] 3)) (fun e W' => OwnsInts (w7.alloc (.cells #[.int .i64 5, .int .i64 6] 3)).heap.size (frame [5, 6]) e W' ∧ Below (w7.alloc (.cells #[.int .i64 5, .int .i64 6] 3)).heap.size (w7.alloc (.cells #[.int .i64 5, .int .i64 6] 3)) W') from
      implFrameOf_c _ 2 2 [5, 6] (by omega) _ (lit2 w7 5 6))
    clear ho7 hg7
    refine HFR.out.mono ?_
    rintro e W8 ⟨h8, hb8⟩
    obtain ⟨a8, c8, rfl, hi8, hn8⟩ := h8.at2
    have HI8 := Lib.hid hi8
    have HN8 := Lib.hid hn8
    have HO8 := Lib.hid (own_below1 (HO7.out.alloc _) hb8)
    have HB8 := Lib.hid (below_next HB7.out (below_next (below_box _ _) hb8))
    have hlt8 := HO8.out.lt
    clear h8 hi8 hn8 hb8
    go_wp2_with (at_builtin; refine wpList_append_ints (by simp [Region.wanted, go_sem]) _ _ rfl W4.heap.size v7 (zs.take n) rfl HO8.out a8 _ c8 (frame [5, 6]) rfl HI8.out HN8.out (by have := HTL.out; rw [frame_length]; simp; omega) HB8.out.size ?_; intro v9 w9 ho9 hg9)
    have HB9 := Lib.hid (HB8.out.grown hg9 HB8.out.size (fun g e => (hlt8 g e).1))
    obtain ⟨a9, c9, rfl, hi9⟩ := ints_of_own ho9
    obtain ⟨a9', c9', he9, h91, h92⟩ := own_caps ho9
    cases he9
    have hl9 : (zs.take n ++ frame [5, 6]).length = n + 4 := by rw [List.length_append, HTL.out, frame_length]; rfl
    rw [hl9] at hi9 h91 ⊢
    have hmore : scanL (zs.take n ++ frame [5, 6]) = (bs ++ [[5, 6]], n + 4) := by
      have := scan_more zs (b := [5, 6]) rfl
      rw [HSC.out] at this
      exact this
    have HFS := Lib.hid (show Calls Try.prog 22 #[.slice a9 (n + 4) c9] w9 (ScanPost (bs ++ [[5, 6]], n + 4) w9) by rw [← hmore]; exact implFramesScan_c a9 (n + 4) c9 _ (by omega) h91 h92 w9 hi9)
    clear ho9 hg9 hi9 h91 h92 hl9 hmore
    refine HFS.out.mono ?_
    rintro e W10 h10
    obtain ⟨a10, c10, rfl, ht10, hc10, hm10, hb10⟩ := h10.at
    have HB10 := Lib.hid (below_next HB9.out hb10)
    have hxl : (bs ++ [[5, 6]]).length = bl + 1 := by rw [List.length_append, HBL.out]; rfl
    dsimp only at ht10 hc10
    rw [hxl] at ht10 hc10
    have HT10 := Lib.hid ht10
    have HC10 := Lib.hid (And.intro hc10 hm10)
    clear h10 hb10 ht10 hc10 hm10
    dsimp only
    rw [hxl]
    clear hxl
    have htt : (bs ++ [[5, 6]]).take bl = bs := by rw [← HBL.out, List.take_left']; rfl
    have HTT := Lib.hid (show TabAt W10 a10 bl bs by
      have h8 := tab_take HT10.out (k := bl) (by omega)
      rwa [htt] at h8)
    have HSX := Lib.hid (sameTable_c a10 a2 bl c10 c2 bs (by omega) ((shortT_ok HSF.out.1).mono (by omega)) W10 HTT.out (HT4.out.keep HB10.out))
    have hblc : (bl : Int) ≤ c10 := by have := HC10.out.1; omega
    have hc10b : c10 ≤ 9223372036854775807 := Nat.le_trans HC10.out.2 (by unfold maxLen; omega)
    obtain ⟨b, off, z, ai, ci, rfl, hz, cz, hzi⟩ := HT10.out.at (i := bl) (by omega)
    have hz2 : z = [5, 6] := by
      rw [List.getElem?_append_right (by have := HBL.out; omega), HBL.out, Nat.sub_self] at hz
      simpa using hz.symm
    subst hz2
    have HZI := Lib.hid hzi
    have cz : W10.cell? ⟨b, off + bl, none⟩ = some (.slice ai 2 ci) := cz
    have e4 : ((n + 4 : Nat) : Int) = (n : Int) + 4 := by push_cast; rfl
    have e1 : ((bl + 1 : Nat) : Int) = (bl : Int) + 1 := by push_cast; rfl
    clear hz hzi htt
    go_wp2_with fail
    refine HSX.out.mono ?_
    rintro e W11 ⟨rfl, hb11⟩
    have HB11 := Lib.hid (below_next HB10.out hb11)
    have HZ12 := Lib.hid ((HZI.out.keep hb11).keep (below_box W11 (.cells #[.int .i64 5, .int .i64 6] 3)))
    have cz11 := cell_kept hb11 cz
    have HSL := Lib.hid (show Calls Try.prog 21 #[.slice ai 2 ci, .slice (some ⟨W11.heap.size, 0, none⟩) 2 2] (W11.alloc (.cells #[.int .i64 5, .int .i64 6] 3)) (BoolPost true (W11.alloc (.cells #[.int .i64 5, .int .i64 6] 3))) from
      sameInts_c ai _ 2 ci 2 [5, 6] (by omega) _ HZ12.out (lit2 W11 5 6))
    clear cz hb11
    go_wp2_with fail
    refine HSL.out.mono ?_
    rintro e W12 ⟨rfl, hb12⟩
    have HB12 := Lib.hid (below_next HB1.out (below_next HB4.out (below_next HB11.out (below_next (below_box _ _) hb12))))
    clear hb12
    go_wp2
    go_ret
    exact ⟨rfl, HB12.out⟩
  · have hl : (1048576 : Int) < len0 := by omega
    clear h w0
    go_enter Try.func9, Try.ntmps9
    go_wp2
    go_ret
    exact ⟨rfl, Below.refl _ _⟩


set_option maxRecDepth 100000 in
theorem lifted (os : Os) (started : os.Started) (H : Type) (enc : TypeId × Value → H) :
    ReturnsInHanded {} Try.checked os 9 .any (Rows.fnScanMoreSpec.pre6 enc Try.prog Try.f9 Rows.fnScanMoreRow.domain false) (Rows.fnScanMoreSpec.post enc Try.prog Try.f9 false true false false) := by
  refine returnsInHanded_of_change (C := Try.checked) own started (by kernel_rfl) Try.func9
    (ChangeSpec.witness6 (enc := enc) (C := Try.checked) false ⟨#[], #[.slice none 0 0], []⟩ 8 (by kernel_rfl) (by kernel_rfl) (by kernel_rfl) (by kernel_rfl)) ?_
  intro W base args ds gs before hval0 hW hcnd _
  have hval : ∀ (j : Nat) t v, Try.f9.params[j]? = some t → args[j]? = some v → Value.okWide Try.prog W .any base t v := hval0
  have hW' := hW
  obtain ⟨p, q, hA0, hV, rfl, hfz, hnd⟩ := hW
  have hA : DataW.TrodAll enc Try.prog W 0 (fun _ => true) true Try.f9.params.toList args.toList ds p := hA0
  rw [Try.params9] at hA hval
  obtain ⟨v0, vs0, d0, ds0, p0, q0, hargs, rfl, rfl, h0, r0⟩ := trodAll_cons hA
  obtain ⟨rfl, rfl, rfl⟩ := trodAll_nil r0
  obtain rfl : args = #[v0] := by cases args; simp_all
  obtain ⟨rfl, rfl⟩ := trodVars_none hV
  obtain ⟨a0, len0, cap0, rfl⟩ := okWide_slice Try.underlying22 (hval 0 22 v0 rfl rfl)
  have k0 := h0
  have lt0 : ∀ x ∈ p0, x.block < W.heap.size := by obtain ⟨m, hm⟩ := k0; exact DataW.trod_lt m _ _ _ hm
  obtain ⟨z0, w0⟩ : ∃ zs, IsRow .u8 W a0 len0 cap0 zs := by
    obtain ⟨fuel, hf⟩ := h0
    rcases open_ints Try.underlying22 Try.underlying5 (by kernel_rfl) hf with ⟨hcs, _⟩ | ⟨x, l, c, zs, hcs, _, hl, hm, hz, _, hcell, hwz⟩
    · simp [Value.cells] at hcs
      obtain ⟨rfl, rfl, rfl⟩ := hcs
      exact ⟨[], .inl ⟨rfl, rfl, rfl, rfl⟩⟩
    · simp [Value.cells] at hcs
      obtain ⟨rfl, rfl, rfl⟩ := hcs
      exact ⟨zs, .inr ⟨_, rfl, hl, hm, by simpa using hz, hcell, hwz⟩⟩
  clear hA0 hval0
  refine (walk a0 len0 cap0 z0 W w0).mono fun e W' ⟨he, bel⟩ => ?_
  subst he
  exact ⟨_, rfl, _, _, _, [], _, [], hW', trodAll_mk1 (shut_bool Try.underlying4 _), (trodAll_cons_mk (Below.trod laidOut (by kernel_rfl) (of_decide_eq_true (by kernel_rfl)) k0 bel lt0) trodAll_mk0), rfl, bel.frame _, fun h => by cases h⟩

theorem over : Rows.fnScanMoreRow.holds Try.pinned (OpenSpec.ofChange Rows.fnScanMoreSpec) :=
  OpenClaim.holds_of_wide 9 Try.f9 rfl rfl rfl rfl rfl rfl rfl ⟨rfl, rfl, rfl, rfl, rfl⟩ rfl rfl rfl rfl rfl (by kernel_rfl) Try.func9 (by kernel_rfl)
    (of_decide_eq_true (by kernel_rfl)) (by unfold Func.isWrapper; first | (rw [if_pos (by decide +kernel)]; kernel_rfl) | (rw [if_neg (by decide +kernel)]; exact ⟨rfl, rfl⟩))
    (fun os started H enc _ => lifted os started H enc)

theorem proved : Rows.FnScanMoreSaid := over
end Go.Proofs.Ytdlkofgapjdeaaa.fnScanMore
