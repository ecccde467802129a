/-
  WALKS: spec.DrawTreeValid, DrawTreeGet, DrawTreePut, DrawTreeUnder.
-/
import Derived.Test.YtkoopkaoojhfhaaLi
namespace Go.Proofs.Ytkoopkaoojhfhaa
open Go.RowKit
set_option linter.unusedVariables false

/-- A drawn list of nodes, in memory of the call's own. -/
def Drawn (W W' : World) (sl : Value) (ns : List Nd) : Prop :=
  W'.ownsRow W.heap.size 32 3 sl ns.length (flatN ns) ∧ ns.length ≤ 11 ∧ Short 64 ns ∧ Below W.heap.size W W'

def ListPost (W : World) (e : Ending) (W' : World) : Prop := ∃ sl ns, e = .returned sl ∧ Drawn W W' sl ns
def ListPathPost (W : World) (e : Ending) (W' : World) : Prop := ∃ sl ns s, e = .returned (.tuple #[sl, .string s]) ∧ s.size ≤ 66 ∧ Drawn W W' sl ns
def ListPutPost (W : World) (e : Ending) (W' : World) : Prop := ∃ sl ns s, ∃ k v : Int, e = .returned (.tuple #[sl, .string s, con k v]) ∧ s.size ≤ 66 ∧ Drawn W W' sl ns

set_option maxHeartbeats 1000000 in
theorem drawTreeValid_c (a : Option Addr) (len cap : Nat) (zs : List Int) (W : World) (h : IsRow .u8 W a len cap zs) :
    Calls Try.prog 34 #[.slice a len cap] W (ListPost W) := by
  have HO := Lib.hid (l6Open_c a len cap zs W h)
  have HA := Lib.hid (fun W1 hR => l91Any_c (W.heap.size + 1) W.heap.size 0 W1 (by omega) hR)
  clear h
  go_enter Try.func34, Try.ntmps34
  go_wp2_with fail
  refine HO.out.mono ?_; rintro e W1 ⟨rfl, hR, hB⟩
  go_wp2_with fail
  refine (HA.out _ hR).mono ?_; rintro e W2 ⟨sl, ns, q, rfl, hown, -, hl, hs, -, -, hg⟩
  have HX := Lib.hid (show Drawn W W2 sl ns from ⟨own_mono hown hB.size, hl, hs, below_of_reader hB hg⟩)
  clear hown hl hs hg hR hB
  go_wp2
  go_ret
  exact ⟨sl, ns, rfl, HX.out⟩

set_option maxHeartbeats 1000000 in
theorem drawTreeGet_c (a : Option Addr) (len cap : Nat) (zs : List Int) (W : World) (h : IsRow .u8 W a len cap zs) :
    Calls Try.prog 16 #[.slice a len cap] W (ListPathPost W) := by
  have HO := Lib.hid (l6Open_c a len cap zs W h)
  have HA := Lib.hid (fun W1 hR => l91Any_c (W.heap.size + 1) W.heap.size 0 W1 (by omega) hR)
  clear h
  go_enter Try.func16, Try.ntmps16
  go_wp2_with fail
  refine HO.out.mono ?_; rintro e W1 ⟨rfl, hR, hB⟩
  go_wp2_with fail
  refine (HA.out _ hR).mono ?_; rintro e W2 ⟨sl, ns, q, rfl, hown, -, hl, hs, hq, hR2, hg⟩
  have hlt := hR.lt
  have HI := Lib.hid (l91In_c (W.heap.size + 1) W.heap.size q W1.heap.size sl ns (by omega) hs hlt W2 hown (by omega) hR2)
  have HX := Lib.hid (And.intro hl (And.intro hs (And.intro hown (And.intro hB hg))))
  have HLT := Lib.hid hlt
  clear hown hl hs hg hR hB hq hR2 hlt
  go_wp2_with fail
  refine HI.out.mono ?_; rintro e W3 ⟨s, q', rfl, hss, -, -, hg3⟩
  have HY := Lib.hid (show s.size ≤ 66 ∧ Drawn W W3 sl ns from ⟨hss, own_mono (own_reader HX.out.2.2.1 HLT.out hg3) HX.out.2.2.2.1.size, HX.out.1, HX.out.2.1, below_of_reader HX.out.2.2.2.1 (grownBy_trans HX.out.2.2.2.2 hg3)⟩)
  clear hss hg3
  go_wp2
  go_ret2
  exact ⟨sl, ns, s, rfl, HY.out.1, HY.out.2⟩

theorem triple_results (fn : Func) (hf : fn.results = #[.tmp 2, .tmp 3, .cell 4 27]) (W : World) (n : Nat) (k v : Int) (sl x : Value) (tmps : Array Value) (h2 : tmps[2]? = some sl) (h3 : tmps[3]? = some x) (ht : tmps[4]? = some (.pointer (some ⟨n, 0, none⟩)))
    (h : W.cell? ⟨n, 0, none⟩ = some (.int .i64 k) ∧ W.cell? ⟨n, 1, none⟩ = some (.int .i64 v)) : (results fn tmps).run Try.prog W = .ok (.tuple #[sl, x, con k v]) W := by
  obtain ⟨c0, c1⟩ := h
  simp [results, hf, go_sem, h2, h3, ht, c0, c1]

theorem own_setOther {W : World} {base : Nat} {e : TypeId} {size n : Nat} {v : Value} {xs : List Value} (h : W.ownsRow base e size v n xs) (a : Addr) (u : Value) (ha : a.block < base) : (W.setCell a u).ownsRow base e size v n xs := by
  refine h.kept (row := some a.block) ⟨rfl, rfl, rfl, by simp [World.setCell], fun k _ hk => Below.heap_setCell _ _ _ _ (fun e => hk (by rw [e]))⟩ ?_
  cases hv : v.ownBlock with
  | none => exact .inl rfl
  | some k =>
    right
    have := (h.lt k hv).1
    simp; omega

set_option maxHeartbeats 1000000 in
theorem drawTreePut_c (a : Option Addr) (len cap : Nat) (zs : List Int) (W : World) (h : IsRow .u8 W a len cap zs) :
    Calls Try.prog 22 #[.slice a len cap] W (ListPutPost W) := by
  have HI := Lib.hid h
  have HO := Lib.hid (fun W h => l6Open_c a len cap zs W h)
  have HA := Lib.hid (fun W1 hR => l91Any_c (W.heap.size + 1 + 1) (W.heap.size + 1) 0 W1 (by omega) hR)
  have HC := Lib.hid (fun q W1 hq hR => l91Content_c (W.heap.size + 1 + 1) (W.heap.size + 1) q W1 hq hR)
  clear h
  go_enter Try.func22, Try.ntmps22
  go_wp2_with fail
  refine (HO.out _ (HI.out.alloc _)).mono ?_; rintro e W1 ⟨rfl, hR, hB⟩
  have T1 := Lib.hid ((two_new W _ _ _).below hB)
  have B1 := Lib.hid (below_next (below_box W _) hB)
  have hR' : RdAt (W.heap.size + 1 + 1) W1 (W.heap.size + 1) 0 := by simpa using hR
  have hs1 : W.heap.size + 1 < W1.heap.size := hR'.lt
  have HS1 := Lib.hid hs1
  clear hB hR hs1
  go_wp2_with fail
  refine (HA.out _ hR').mono ?_; rintro e W2 ⟨sl, ns, q, rfl, hown, -, hl, hs, hq, hR2, hg⟩
  have HIn := Lib.hid (l91In_c (W.heap.size + 1 + 1) (W.heap.size + 1) q W1.heap.size sl ns (by omega) hs HS1.out W2 hown (by omega) hR2)
  have HX := Lib.hid (And.intro hl (And.intro hs hown))
  have T2 := Lib.hid (T1.out.keep hg (by omega))
  have HG2 := Lib.hid hg
  have HQ := Lib.hid hq
  clear hown hl hs hg hR' hq hR2
  go_wp2_with fail
  refine HIn.out.mono ?_; rintro e W3 ⟨s, q3, rfl, hss, hq3, hR3, hg3⟩
  have HSS := Lib.hid hss
  have T3 := Lib.hid (T2.out.keep hg3 (by omega))
  have HG3 := Lib.hid (grownBy_trans HG2.out hg3)
  have HO3 := Lib.hid (own_reader HX.out.2.2 HS1.out hg3)
  have HQ3 := Lib.hid hq3
  clear hss hg3 hq3
  go_wp2_with fail
  refine (HC.out q3 _ (by have := HQ.out; have := HQ3.out; omega) hR3).mono ?_; rintro e W4 ⟨k, v, q4, rfl, -, -, -, -, -, -, hg4⟩
  have T4 := Lib.hid (T3.out.keep hg4 (by omega))
  have HG4 := Lib.hid (grownBy_trans HG3.out hg4)
  have HO4 := Lib.hid (own_reader HO3.out HS1.out hg4)
  have B4 := Lib.hid (B1.out.grown HG4.out B1.out.size (fun g e => by cases e; omega))
  clear hg4 hR3
  obtain ⟨g0, g1, f0, f1, -⟩ := T4.out
  unfold con
  go_wp2
  refine bodyPost_ret (triple_results _ rfl _ W.heap.size k v sl (.string s) _ rfl rfl rfl (let h2 := (T4.out.set0 (c := .int .i64 k)).set1 (c := .int .i64 v); ⟨h2.1, h2.2.1⟩)) rfl ?_
  have hlt1 : W.heap.size < W1.heap.size := by have := HS1.out; omega
  exact ⟨sl, ns, s, k, v, rfl, HSS.out, own_mono (own_setOther (own_setOther HO4.out _ _ hlt1) _ _ hlt1) (Nat.le_of_lt hlt1), HX.out.1, HX.out.2.1, below_setCell (below_setCell B4.out _ _ (Nat.le_refl _)) _ _ (Nat.le_refl _)⟩

/-- END OF PUT -/
theorem drewN_heap (W : World) (n : Nat) : (W.drewN n).heap = W.heap := (drewN_cell W n ⟨0, 0, none⟩).2.2
theorem drawn_drewN {W W' : World} {sl : Value} {ns : List Nd} (h : Drawn W W' sl ns) (n : Nat) : Drawn W (W'.drewN n) sl ns := by
  obtain ⟨h1, h2, h3, h4⟩ := h
  have hb : Below W'.heap.size W' (W'.drewN n) := ⟨rfl, rfl, rfl, by rw [drewN_heap]; exact Nat.le_refl _, fun k _ => by rw [drewN_heap]⟩
  exact ⟨own_below h1 hb, h2, h3, below_next h4 hb⟩

set_option maxHeartbeats 1000000 in
set_option maxRecDepth 100000 in
theorem drawTreeUnder_c (a : Option Addr) (len cap : Nat) (zs : List Int) (W : World) (h : IsRow .u8 W a len cap zs) :
    Calls Try.prog 30 #[.slice a len cap] W (ListPathPost W) := by
  have HO := Lib.hid (l6Open_c a len cap zs W h)
  have HA := Lib.hid (fun W1 hR => l91Any_c (W.heap.size + 1) W.heap.size 0 W1 (by omega) hR)
  have HPK := Lib.hid (fun q n h0 h1 W1 hq hR => pick_c (W.heap.size + 1) W.heap.size q n h0 h1 W1 hq hR)
  clear h
  go_enter Try.func30, Try.ntmps30
  go_wp2_with fail
  refine HO.out.mono ?_; rintro e W1 ⟨rfl, hR, hB⟩
  have HB1 := Lib.hid hB
  have HLT := Lib.hid hR.lt
  clear hB
  go_wp2_with fail
  refine (HA.out _ hR).mono ?_; rintro e W2 ⟨sl, ns, q, rfl, hown, -, hl, hs, hq, hR2, hg⟩
  have HLN := Lib.hid hl
  have HSH := Lib.hid hs
  have HQ := Lib.hid hq
  have HG2 := Lib.hid hg
  have HO2 := Lib.hid hown
  clear hown hl hs hg hR hq
  go_wp2_with fail
  refine (HPK.out q 6 (by omega) (by omega) _ (by have := HQ.out; omega) hR2).mono ?_; rintro e W3 ⟨r, rfl, r0, r1, hR3, hg3⟩
  have HO3 := Lib.hid (own_reader HO2.out HLT.out hg3)
  have HG3 := Lib.hid (grownBy_trans HG2.out hg3)
  clear hg3 hR2
  by_cases hr : r = 0
  · subst hr
    clear r0 r1
    have HY := Lib.hid (show Drawn W W3 sl ns from ⟨own_mono HO3.out HB1.out.size, HLN.out, HSH.out, below_of_reader HB1.out HG3.out⟩)
    go_wp2
    go_ret2
    exact ⟨sl, ns, ⟨#[47]⟩, rfl, by decide, HY.out⟩
  · have hr' : (r == 0) = false := beq_eq_false_iff_ne.2 hr
    clear r0 r1 hr
    by_cases h0 : ns.length = 0
    · obtain ⟨a, cap, hsl, -⟩ := nodes_of_own HO3.out
      subst hsl
      have h0' : (ns.length : Int) = 0 := by omega
      clear h0
      have HI := Lib.hid (l91In_c (W.heap.size + 1) W.heap.size (q + 1) W1.heap.size (.slice a ns.length cap) ns (by have := HLN.out; omega) HSH.out HLT.out W3 (HO3.out) (by have := HQ.out; omega) hR3)
      go_wp2_with fail
      refine HI.out.mono ?_; rintro e W9 ⟨s, q', rfl, hss, -, -, hg9⟩
      have HY := Lib.hid (show s.size ≤ 66 ∧ Drawn W W9 (.slice a ns.length cap) ns from ⟨hss, own_mono (own_reader (HO3.out) HLT.out hg9) HB1.out.size, HLN.out, HSH.out, below_of_reader HB1.out (grownBy_trans HG3.out hg9)⟩)
      clear hss hg9
      go_wp2
      go_ret2
      exact ⟨_, ns, s, rfl, HY.out.1, HY.out.2⟩
    · obtain ⟨g, cap, hsl, -, -⟩ := own_slice HO3.out (by omega)
      subst hsl
      have hl1 : (0 : Int) < ns.length := by omega
      have HL0 := Lib.hid (show 0 < ns.length by omega)
      clear h0
      go_wp2_with fail
      refine (HPK.out (q + 1) 3 (by omega) (by omega) _ (by have := HQ.out; omega) hR3).mono ?_; rintro e W4 ⟨t, rfl, t0, t1, hR4, hg4⟩
      have HO4 := Lib.hid (own_reader HO3.out HLT.out hg4)
      have HG4 := Lib.hid (grownBy_trans HG3.out hg4)
      clear hg4 hR3
      by_cases ht : 0 < t
      · have ht' : decide (0 < t) = true := decide_eq_true ht
        clear t0 t1
        go_wp2_with fail
        refine (HPK.out (q + 1 + 1) ns.length (by have := HL0.out; omega) (by have := HLN.out; omega) _ (by have := HQ.out; omega) hR4).mono ?_; rintro e W5 ⟨k', rfl, k0, k1, hR5, hg5⟩
        obtain ⟨k, rfl⟩ := Int.eq_ofNat_of_zero_le k0
        have HK := Lib.hid (show k < ns.length by omega)
        have HO5 := Lib.hid (own_reader HO4.out HLT.out hg5)
        have HG5 := Lib.hid (grownBy_trans HG4.out hg5)
        obtain ⟨x, hx⟩ : ∃ x, ns[k]? = some x := ⟨_, List.getElem?_eq_getElem HK.out⟩
        have hsz : x.p.size ≤ 64 := HSH.out x (List.mem_of_getElem? hx)
        have c0 : W5.cell? ⟨g, k * 3, none⟩ = some (.string x.p) := by rw [HO5.out.cellAt _ (by have := HK.out; omega)]; exact (flatN_get ns k x hx).1
        have hkl : (k : Int) < ns.length := by have := HK.out; omega
        generalize x.p = s at hsz c0
        clear k0 k1 hg5 hR4 hx ht
        by_cases h2 : 2 < s.size
        · have h2' : (2 : Int) < s.size := by omega
          have w1 : IntKind.i64.wrap ((s.size : Int) - 2) = ((s.size - 2 : Nat) : Int) := by rw [IntWalk.i64_in _ (by omega)]; omega
          have HSZ := Lib.hid hsz
          have HY := Lib.hid (show Drawn W W5 _ ns from ⟨own_mono HO5.out HB1.out.size, HLN.out, HSH.out, below_of_reader HB1.out HG5.out⟩)
          have hle : ((s.size - 2 : Nat) : Int) ≤ s.size := by omega
          clear h2
          go_wp2
          go_quiet (fail)
          go_wp2
          go_ret2
          exact ⟨_, ns, s.extract 0 (s.size - 2), rfl, by rw [ByteArray.size_extract]; have := HSZ.out; omega, drawn_drewN HY.out nq⟩
        · have h2' : (s.size : Int) ≤ 2 := by omega
          have HX := Lib.hid hsz
          clear h2 hsz
          have HI := Lib.hid (l91In_c (W.heap.size + 1) W.heap.size (q + 1 + 1 + 1) W1.heap.size (.slice (some ⟨g, 0, none⟩) ns.length cap) ns (by have := HLN.out; omega) HSH.out HLT.out W5 (HO5.out) (by have := HQ.out; omega) hR5)
          go_wp2_with fail
          refine HI.out.mono ?_; rintro e W9 ⟨s, q', rfl, hss, -, -, hg9⟩
          have HY := Lib.hid (show s.size ≤ 66 ∧ Drawn W W9 (.slice (some ⟨g, 0, none⟩) ns.length cap) ns from ⟨hss, own_mono (own_reader (HO5.out) HLT.out hg9) HB1.out.size, HLN.out, HSH.out, below_of_reader HB1.out (grownBy_trans HG5.out hg9)⟩)
          clear hss hg9
          go_wp2
          go_ret2
          exact ⟨_, ns, s, rfl, HY.out.1, HY.out.2⟩
      · have ht' : decide (0 < t) = false := decide_eq_false ht
        clear t0 t1
        have HI := Lib.hid (l91In_c (W.heap.size + 1) W.heap.size (q + 1 + 1) W1.heap.size (.slice (some ⟨g, 0, none⟩) ns.length cap) ns (by have := HLN.out; omega) HSH.out HLT.out W4 (HO4.out) (by have := HQ.out; omega) hR4)
        go_wp2_with fail
        refine HI.out.mono ?_; rintro e W9 ⟨s, q', rfl, hss, -, -, hg9⟩
        have HY := Lib.hid (show s.size ≤ 66 ∧ Drawn W W9 (.slice (some ⟨g, 0, none⟩) ns.length cap) ns from ⟨hss, own_mono (own_reader (HO4.out) HLT.out hg9) HB1.out.size, HLN.out, HSH.out, below_of_reader HB1.out (grownBy_trans HG4.out hg9)⟩)
        clear hss hg9
        go_wp2
        go_ret2
        exact ⟨_, ns, s, rfl, HY.out.1, HY.out.2⟩

end Go.Proofs.Ytkoopkaoojhfhaa
