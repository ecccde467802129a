/-
  Texts of this proof, one behind the other: Lf, Lk, Fe, Ff, Fg, Fh, Kg, Gb, Gc, Gk, Gl, Gm, Kh, Gn, Fi.
-/
import Derived.Deep.RegionHeld3
import Derived.Test.YtoipbocbgadjbaaQ6
import Derived.Test.YtoipbocbgadjbaaQ1
import Derived.Test.YtoipbocbgadjbaaQ5
import Derived.Test.YtoipbocbgadjbaaGa
import Derived.Test.YtoipbocbgadjbaaQ3
/-
  WALKS: logs that are drawn, seldom broken ones (spec.l91Broken); spec.DrawLogValid, DrawLogUndo, DrawLogApply, DrawLogFits.
-/
namespace Go.Proofs.Ytoipbocbgadjbaa
open Go.RowKit
set_option linter.unusedVariables false

theorem flatC_cons (c : Cmd) (t : List Cmd) : flatC (c :: t) = .string c.p :: .int .i64 c.fk :: .int .i64 c.fv :: .int .i64 c.tk :: .int .i64 c.tv :: flatC t := rfl

theorem flatC_setTo : ∀ (cs : List Cmd) (i : Nat) (c : Cmd) (k v : Int), cs[i]? = some c → ((flatC cs).set (i * 5 + 3) (.int .i64 k)).set (i * 5 + 4) (.int .i64 v) = flatC (cs.set i ⟨c.p, c.fk, c.fv, k, v⟩)
  | [], i, c, k, v, h => by simp at h
  | m :: r, 0, c, k, v, h => by
    simp at h
    subst h
    rfl
  | m :: r, i + 1, c, k, v, h => by
    have ih := flatC_setTo r i c k v (by simpa using h)
    rw [List.set_cons_succ, flatC_cons m r, flatC_cons m (r.set i _), ← ih, show (i + 1) * 5 + 3 = (i * 5 + 3) + 5 by omega, show (i + 1) * 5 + 4 = (i * 5 + 4) + 5 by omega]
    rfl

theorem flatC_setPath : ∀ (cs : List Cmd) (i : Nat) (c : Cmd) (s : ByteArray), cs[i]? = some c → (flatC cs).set (i * 5) (.string s) = flatC (cs.set i ⟨s, c.fk, c.fv, c.tk, c.tv⟩)
  | [], i, c, s, h => by simp at h
  | m :: r, 0, c, s, h => by
    simp at h
    subst h
    rfl
  | m :: r, i + 1, c, s, h => by
    have ih := flatC_setPath r i c s (by simpa using h)
    rw [List.set_cons_succ, flatC_cons m r, flatC_cons m (r.set i _), ← ih, show (i + 1) * 5 = i * 5 + 5 by omega]
    rfl

theorem own_setTo {W : World} {base : Nat} {e : TypeId} {g cap : Nat} {cs : List Cmd} {i : Nat} {c : Cmd} (h : W.ownsRow base e 5 (.slice (some ⟨g, 0, none⟩) cs.length cap) cs.length (flatC cs)) (hn : cs[i]? = some c) (k v : Int) :
    ((W.setCell ⟨g, i * 5 + 3, none⟩ (.int .i64 k)).setCell ⟨g, i * 5 + 3 + 1, none⟩ (.int .i64 v)).ownsRow base e 5 (.slice (some ⟨g, 0, none⟩) cs.length cap) (cs.set i ⟨c.p, c.fk, c.fv, k, v⟩).length (flatC (cs.set i ⟨c.p, c.fk, c.fv, k, v⟩)) := by
  have := ((h.stored (i * 5 + 3) (.int .i64 k)).1.stored (i * 5 + 4) (.int .i64 v)).1
  rw [flatC_setTo cs i c k v hn] at this
  rw [List.length_set]
  exact this

theorem own_setPath {W : World} {base : Nat} {e : TypeId} {g cap : Nat} {cs : List Cmd} {i : Nat} {c : Cmd} (h : W.ownsRow base e 5 (.slice (some ⟨g, 0, none⟩) cs.length cap) cs.length (flatC cs)) (hn : cs[i]? = some c) (s : ByteArray) :
    (W.setCell ⟨g, i * 5, none⟩ (.string s)).ownsRow base e 5 (.slice (some ⟨g, 0, none⟩) cs.length cap) (cs.set i ⟨s, c.fk, c.fv, c.tk, c.tv⟩).length (flatC (cs.set i ⟨s, c.fk, c.fv, c.tk, c.tv⟩)) := by
  have := (h.stored (i * 5) (.string s)).1
  rw [flatC_setPath cs i c s hn] at this
  rw [List.length_set]
  exact this

theorem flatC_take (cs : List Cmd) (k : Nat) : (flatC cs).take (k * 5) = flatC (cs.take k) := by
  induction cs generalizing k with
  | nil => simp [flatC]
  | cons c r ih =>
    cases k with
    | zero => rfl
    | succ k =>
      rw [List.take_succ_cons, flatC_cons, flatC_cons, show (k + 1) * 5 = k * 5 + 5 by omega, ← ih k]
      rfl

/-- The first commands of a list of the call's own. -/
theorem own_takeC {W : World} {base : Nat} {e : TypeId} {g cap : Nat} {cs : List Cmd} (h : W.ownsRow base e 5 (.slice (some ⟨g, 0, none⟩) cs.length cap) cs.length (flatC cs)) (k : Nat) (hk : k ≤ cs.length) : W.ownsRow base e 5 (.slice (some ⟨g, 0, none⟩) k cap) (cs.take k).length (flatC (cs.take k)) := by
  have hl : (cs.take k).length = k := by rw [List.length_take]; omega
  rw [hl]
  obtain ⟨h1, h2⟩ := h
  refine ⟨by rw [flatC_length, hl], .inr ?_⟩
  rcases h2 with ⟨h3, _⟩ | ⟨g', cap', cur, h3, h4, h5, h6, h7, h8, h9⟩
  · cases h3
  · cases h3
    refine ⟨g, cap, cur, rfl, h4, h5, by omega, h7, h8, ?_⟩
    rw [← flatC_take, ← h9, List.take_take]
    congr 1
    omega

theorem own_sliceC {W : World} {base : Nat} {e : TypeId} {v : Value} {cs : List Cmd} (h : W.ownsRow base e 5 v cs.length (flatC cs)) (h0 : 0 < cs.length) : ∃ g cap, v = .slice (some ⟨g, 0, none⟩) cs.length cap ∧ base ≤ g ∧ cs.length ≤ cap ∧ cap ≤ maxLen := by
  rcases h.2 with ⟨_, h1⟩ | ⟨g, cap, cur, rfl, h1, h2, h3, h4, _⟩
  · omega
  · exact ⟨g, cap, rfl, h1, h3, h4⟩

/-- The last commands of a list of the call's own. -/
theorem own_tailC {W : World} {base : Nat} {e : TypeId} {g cap : Nat} {cs : List Cmd} (h : W.ownsRow base e 5 (.slice (some ⟨g, 0, none⟩) cs.length cap) cs.length (flatC cs)) (m : Nat) (hm : m ≤ cs.length) (o : Nat) (ho : o = m * 5 ∨ cs.length = m) : CmdsAt W (some ⟨g, o, none⟩) (cs.length - m) (cs.drop m) := by
  refine ⟨by rw [List.length_drop], ?_⟩
  rcases ho with rfl | ho
  · have := (cmds_own h).part m cs.length hm (Nat.le_refl _)
    rw [Nat.zero_add, show (cs.drop m).take (cs.length - m) = cs.drop m from List.take_of_length_le (by rw [List.length_drop]; exact Nat.le_refl _)] at this
    exact this.2
  · left; omega

theorem shortC_set {m : Nat} {cs : List Cmd} {i : Nat} {d : Cmd} (h : ShortC m cs) (hd : d.p.size ≤ m) : ShortC m (cs.set i d) := by
  intro x hx
  rcases List.mem_or_eq_of_mem_set hx with h1 | rfl
  · exact h x h1
  · exact hd

theorem shortC_part {m : Nat} {cs ds : List Cmd} (h : ShortC m cs) (hs : ∀ x ∈ ds, x ∈ cs) : ShortC m ds := fun x hx => h x (hs x hx)

def brokenPaths : List ByteArray := [⟨#[]⟩, ⟨#[47]⟩, ⟨#[47, 120]⟩]

set_option maxHeartbeats 4000000 in
set_option maxRecDepth 100000 in
theorem l91Broken_c (N0 B p base : Nat) (sl : Value) (ns : List Nd) (hlen : ns.length ≤ 11) (hs : Short 64 ns) (hb : B < base) (W : World) (hbW : base ≤ W.heap.size) (hown : W.ownsRow base 99 3 sl ns.length (flatN ns)) (hp : p < 10000) (hR : RdAt N0 W B p) :
    Calls Try.prog 65 #[.pointer (some ⟨B, 0, none⟩), sl] W (LogDraw N0 B p 21 1100 W) := by
  obtain ⟨i0, hi, hz0, hz1, hz2⟩ := info_parts infoCmd
  have HLT := Lib.hid hR.lt
  have HLE := Lib.hid hR.le
  have HP1 := Lib.hid (fun W hR => pick_c N0 B p 12 (by omega) (by omega) W (by omega) hR)
  have HP2 := Lib.hid (fun W hR => pick_c N0 B (p + 1) 10 (by omega) (by omega) W (by omega) hR)
  have HT := Lib.hid (fun n h0 h1 W' (hW : base ≤ W'.heap.size) ho hR => l91Log_c N0 B (p + 1 + 1) base sl ns n h0 h1 hlen hs hb W' hW ho (by omega) hR)
  have HPK := Lib.hid (fun q n h0 h1 W hq hR => pick_c N0 B q n h0 h1 W hq hR)
  have HC := Lib.hid (fun q W hq hR => l91Content_c N0 B q W hq hR)
  have HOF := Lib.hid (fun q W' (hq : q < 30000) hR => of_lit N0 B q brokenPaths 3 rfl (by decide) (by decide) W' hq hR #[.string ⟨#[]⟩, .string ⟨#[47]⟩, .string ⟨#[47, 120]⟩] rfl)
  have HPP := Lib.hid hp
  have HOW := Lib.hid hown
  have HBB := Lib.hid hb
  have HBW := Lib.hid hbW
  clear hp hown hb hbW hlen hs
  go_enter Try.func65, Try.ntmps65
  go_wp2_with fail
  refine (HP1.out _ hR).mono ?_; rintro e W1 ⟨n, rfl, n0, n1, hR1, hg1⟩
  have HN := Lib.hid (And.intro n0 n1)
  have HO1 := Lib.hid (own_reader HOW.out HBB.out hg1)
  clear n0 n1 hR
  go_wp2_with fail
  refine (HP2.out _ hR1).mono ?_; rintro e W2 ⟨r, rfl, r0, r1, hR2, hg2⟩
  have HG2 := Lib.hid (grownBy_trans hg1 hg2)
  have HO2 := Lib.hid (own_reader HO1.out HBB.out hg2)
  have HW2 := Lib.hid (show base ≤ W2.heap.size by have h1 := HG2.out.size; have h2 := HBW.out; omega)
  have HR2 := Lib.hid hR2
  clear hg1 hg2 hR1 hR2
  by_cases hr : r = 0
  · subst hr
    clear r0 r1
    go_wp2_with fail
    refine (HT.out 60 (by omega) (by omega) _ HW2.out HO2.out HR2.out).mono ?_; rintro e W3 ⟨v, out, q, rfl, hown0, hlen, hsh, hq, hR3, hg3⟩
    have hown := own_mono hown0 HG2.out.size
    have HG3 := Lib.hid (grownBy_trans HG2.out hg3)
    have HSH := Lib.hid hsh
    have HLN := Lib.hid hlen
    have HQ := Lib.hid hq
    have HR3 := Lib.hid hR3
    clear hown0 hg3 hsh hlen hq hR3
    by_cases hl0 : out.length = 0
    · obtain ⟨a, cap, rfl, -⟩ := cmds_of_own hown
      have HO := Lib.hid hown
      have hl0' : (out.length : Int) = 0 := by omega
      clear hl0 hown
      go_wp2
      go_ret
      exact ⟨_, out, q, rfl, HO.out, by have := HLN.out; omega, HSH.out, by have := HQ.out; omega, HR3.out, HG3.out⟩
    · have hl0 : 0 < out.length := by omega
      have hl1 : (0 : Int) < out.length := by omega
      obtain ⟨g, cap, rfl, hgb, hlc, hcm⟩ := own_sliceC hown hl0
      have HB := Lib.hid (And.intro hgb (And.intro hlc hcm))
      have HO3 := Lib.hid hown
      clear hgb hlc hcm hown
      go_wp2_with fail
      refine (HPK.out q out.length (by omega) (by have := HLN.out; omega) _ (by have := HQ.out; have := HPP.out; omega) HR3.out).mono ?_; rintro e W4 ⟨k', rfl, k0, k1, hR4, hg4⟩
      obtain ⟨k, rfl⟩ := Int.eq_ofNat_of_zero_le k0
      have HK := Lib.hid (show k < out.length by omega)
      have HO4 := Lib.hid (own_reader HO3.out HLT.out hg4)
      clear k0 k1
      go_wp2_with fail
      refine (HPK.out (q + 1) 14 (by omega) (by omega) _ (by have := HQ.out; have := HPP.out; omega) hR4).mono ?_; rintro e W5 ⟨tt, rfl, t0, t1, hR5, hg5⟩
      have HO5 := Lib.hid (own_reader HO4.out HLT.out hg5)
      have HG5 := Lib.hid (grownBy_trans HG3.out (grownBy_trans hg4 hg5))
      have HR5 := Lib.hid hR5
      obtain ⟨x, hx⟩ : ∃ x, out[k]? = some x := ⟨_, List.getElem?_eq_getElem HK.out⟩
      have HX := Lib.hid hx
      have hkl : (k : Int) < out.length := by have := HK.out; omega
      have HVB := Lib.hid (fun k (e : (Value.slice (some ⟨g, 0, none⟩) out.length cap).ownBlock = some k) => (HO5.out.lt k e).1)
      clear hx hg4 hg5 hR4 hR5 hl0
      by_cases ht : tt = 0
      · subst ht
        clear t0 t1
        go_wp2_with fail
        refine (HC.out (q + 1 + 1) _ (by have := HQ.out; have := HPP.out; omega) HR5.out).mono ?_; rintro e W6 ⟨k6, v6, q6, rfl, -, -, -, -, hq6, hR6, hg6⟩
        have HO6 := Lib.hid (own_reader HO5.out HLT.out hg6)
        have HG6 := Lib.hid (grownBy_trans HG5.out hg6)
        have HR6 := Lib.hid hR6
        have HQ6 := Lib.hid hq6
        obtain ⟨-, -, -, x3, x4⟩ := flatC_get out k x HX.out
        have c3 : W6.cell? ⟨g, k * 5 + 3, none⟩ = some (.int .i64 x.tk) := by rw [HO6.out.cellAt _ (by have := HK.out; omega)]; exact x3
        have c4 : W6.cell? ⟨g, k * 5 + 4, none⟩ = some (.int .i64 x.tv) := by rw [HO6.out.cellAt _ (by have := HK.out; omega)]; exact x4
        have z3 := HO6.out.frozenAt (k * 5 + 3)
        have z4 := HO6.out.frozenAt (k * 5 + 4)
        unfold con
        clear hq6 hR6 hg6 x3 x4
        go_wp2
        go_ret
        exact ⟨_, out.set k ⟨x.p, x.fk, x.fv, k6, v6⟩, q6, rfl, own_setTo HO6.out HX.out k6 v6, by rw [List.length_set]; have := HLN.out; omega, shortC_set HSH.out (show x.p.size ≤ 66 from HSH.out.at HX.out), by have := HQ.out; have := HQ6.out; omega,
          (HR6.out.setNew _ _ (by have := HLE.out; have := HB.out.1; show N0 ≤ g; omega)).setNew _ _ (by have := HLE.out; have := HB.out.1; show N0 ≤ g; omega), grownBy_setCell_new (grownBy_setCell_new HG6.out _ _ HB.out.1) _ _ HB.out.1⟩
      · have ht0 : (tt == 0) = false := beq_eq_false_iff_ne.2 ht
        clear ht
        by_cases ht : tt = 1
        · subst ht
          clear t0 t1
          have hk2 : (k : Int) ≤ cap := by have := HK.out; have := HB.out.2.1; omega
          have hk0 : (0 : Int) ≤ k := by omega
          have hk3 : (k : Int) + 1 ≤ out.length := by omega
          have hlc2 : (out.length : Int) ≤ cap := by have := HB.out.2.1; omega
          obtain ⟨m, hm⟩ : ∃ m, m = k + 1 := ⟨_, rfl⟩
          have hwr : IntKind.i64.wrap ((k : Int) + 1) = (m : Int) := (IntWalk.i64_in _ (by have := HLN.out; omega)).trans (by omega)
          have hm0 : (0 : Int) ≤ m := by omega
          have hm1 : (m : Int) ≤ out.length := by omega
          have hm2 : (m : Int) ≤ cap := by omega
          have hmm : m ≤ out.length := by omega
          have HM := Lib.hid (And.intro hm hmm)
          have HTK := Lib.hid (show W5.drew.ownsRow W.heap.size 26 5 (.slice (some ⟨g, 0, none⟩) k cap) k (flatC (out.take k)) by
            have := own_takeC HO5.out k (by have := HK.out; omega)
            rw [show (out.take k).length = k by rw [List.length_take]; have := HK.out; omega] at this
            exact this)
          have HFL := Lib.hid (show (flatC (out.drop m)).length = (out.length - m) * 5 by rw [flatC_length, List.length_drop])
          have HMX := Lib.hid (show k + (out.length - m) ≤ maxLen ∧ (k + (out.length - m)) * 48 ≤ 140737488355328 by unfold maxLen; have := HLN.out; have := HK.out; omega)
          have HBS := Lib.hid (show W.heap.size ≤ W5.drew.heap.size from HG5.out.size)
          have HSB := Lib.hid (show ShortC 66 (out.take k ++ out.drop m) from shortC_part HSH.out (fun y hy => by
            rcases List.mem_append.1 hy with h | h
            · exact List.mem_of_mem_take h
            · exact List.mem_of_mem_drop h))
          have HLB := Lib.hid (show (out.take k ++ out.drop m).length = k + (out.length - m) by rw [List.length_append, List.length_take, List.length_drop]; have := HK.out; omega)
          clear hm hmm
          have HVK := Lib.hid (fun k' (e : (Value.slice (some ⟨g, 0, none⟩) k cap).ownBlock = some k') => show W.heap.size ≤ k' by cases e; exact HB.out.1)
          by_cases hcap : cap = m
          · subst hcap
            have HCEL := Lib.hid (cmds_cells (show CmdsAt W5.drew (some ⟨g, 0, none⟩) (out.length - cap) (out.drop cap) from own_tailC HO5.out cap HM.out.2 0 (.inr (by have h1 := HB.out.2.1; have h2 := HM.out.2; omega))))
            have HG0 : Hid (W5.drew.grownBy W5.drew (some g)) := ⟨rfl, rfl, rfl, Nat.le_refl _, fun _ _ _ => rfl⟩
            go_upto_region 11 with (fail)
            refine wp_region_held_drew (S := (fun w' => W5.drew.grownBy w' (some g))) (by kernel_rfl) HG0.out (fun hH => ?_)
            refine wpAnyH_take (i := 0) (oi := _) (v := ?_) rfl (by kernel_rfl) (by kernel_rfl) (by kernel_rfl) (fun _ _ _ h => h) (Or.inl ⟨by rfl, ?_⟩) (by assumption) ?_
            rotate_left
            · (intro w hSw; (try dsimp only at hSw); go_simp; try with_reducible rfl)
            try simp only [Act.put, List.getElem_toArray, List.getElem_cons_zero, List.setIfInBounds_toArray, List.set_cons_zero, List.set_cons_succ]
            refine wpAnyH_take (i := 1) (oi := _) (v := ?_) rfl (by kernel_rfl) (by kernel_rfl) (by kernel_rfl) (fun _ _ _ h => h) (Or.inl ⟨by rfl, ?_⟩) (by assumption) ?_
            rotate_left
            · (intro w hSw; (try dsimp only at hSw); go_simp; try with_reducible rfl)
            try simp only [Act.put, List.getElem_toArray, List.getElem_cons_zero, List.getElem_cons_succ, List.setIfInBounds_toArray, List.set_cons_zero, List.set_cons_succ]
            refine wpAnyH_take (i := 2) (oi := _) (v := ?_) rfl (by kernel_rfl) (by kernel_rfl) (by kernel_rfl) (fun _ _ _ h => h) (Or.inl ⟨by rfl, ?_⟩) (by assumption) ?_
            rotate_left
            · (intro w hSw; (try dsimp only at hSw); go_simp; try with_reducible rfl)
            try simp only [Act.put, List.getElem_toArray, List.getElem_cons_zero, List.getElem_cons_succ, List.setIfInBounds_toArray, List.set_cons_zero, List.set_cons_succ]
            refine wpAnyH_take (i := 3) (oi := _) (v := ?_) rfl (by kernel_rfl) (by kernel_rfl) (by kernel_rfl) (fun _ _ _ h => h) (Or.inl ⟨by rfl, ?_⟩) (by assumption) ?_
            rotate_left
            · (intro w hSw; (try dsimp only at hSw); go_simp; try with_reducible rfl)
            try simp only [Act.put, List.getElem_toArray, List.getElem_cons_zero, List.getElem_cons_succ, List.setIfInBounds_toArray, List.set_cons_zero, List.set_cons_succ]
            refine wpAnyH_take (i := 4) (oi := _) (v := ?_) rfl (by kernel_rfl) (by kernel_rfl) (by kernel_rfl) (fun _ _ _ h => h) (Or.inl ⟨by rfl, ?_⟩) (by assumption) ?_
            rotate_left
            · (intro w hSw; (try dsimp only at hSw); go_simp; try with_reducible rfl)
            try simp only [Act.put, List.getElem_toArray, List.getElem_cons_zero, List.getElem_cons_succ, List.setIfInBounds_toArray, List.set_cons_zero, List.set_cons_succ]
            refine wpAnyH_take (i := 5) (oi := _) (v := ?_) rfl (by kernel_rfl) (by kernel_rfl) (by kernel_rfl) (fun _ _ _ h => h) (Or.inl ⟨by rfl, ?_⟩) (by assumption) ?_
            rotate_left
            · (intro w hSw; (try dsimp only at hSw); go_simp; try with_reducible rfl)
            try simp only [Act.put, List.getElem_toArray, List.getElem_cons_zero, List.getElem_cons_succ, List.setIfInBounds_toArray, List.set_cons_zero, List.set_cons_succ]
            refine wpAnyH_take (i := 6) (oi := _) (v := ?_) rfl (by kernel_rfl) (by kernel_rfl) (by kernel_rfl) (fun _ _ _ h => h) (Or.inl ⟨by rfl, ?_⟩) (by assumption) ?_
            rotate_left
            · (intro w hSw; (try dsimp only at hSw); go_simp; try with_reducible rfl)
            try simp only [Act.put, List.getElem_toArray, List.getElem_cons_zero, List.getElem_cons_succ, List.setIfInBounds_toArray, List.set_cons_zero, List.set_cons_succ]
            refine wpAnyH_ready (rs := [7]) (by kernel_rfl) (by simp) ?_
            refine AllReadyH.cons rfl (fun K hK => ?_) (AllReadyH.nil)
            rw [if_pos (by rfl)]
            refine wp_append_own _ _ _ 36 rfl W.heap.size 26 i0 (.agg #[.string ⟨#[]⟩, .int .i64 0, .int .i64 0, .int .i64 0, .int .i64 0]) 5 48 Try.underlying36 hi hz0 hz1 hz2 rfl (by decide) (.slice (some ⟨g, 0, none⟩) k cap) k (flatC (out.take k)) rfl HTK.out ⟨g, 0, none⟩ (out.length - cap) 0 (flatC (out.drop cap)) rfl HFL.out HCEL.out (flatC_cell1 _) HMX.out.1 HMX.out.2 HBS.out ?_
            intro v4 w4 ho4 hg4 hn4
            refine hK.out _ _ hg4 (fun hHeld => ?_)
            try simp only [Act.put, List.getElem_toArray, List.getElem_cons_zero, List.getElem_cons_succ, List.setIfInBounds_toArray, List.set_cons_zero, List.set_cons_succ]
            refine wpAnyH_take (i := 8) (oi := _) (v := ?_) rfl (by kernel_rfl) (by kernel_rfl) (by kernel_rfl) (fun _ _ _ h => h) (Or.inl ⟨by rfl, ?_⟩) (by assumption) ?_
            rotate_left
            · (intro w hSw; (try dsimp only at hSw); go_simp; try with_reducible rfl)
            try simp only [Act.put, List.getElem_toArray, List.getElem_cons_zero, List.getElem_cons_succ, List.setIfInBounds_toArray, List.set_cons_zero, List.set_cons_succ]
            refine wpAnyH_done (by kernel_rfl) ?_ _
            have hown4 : w4.ownsRow W.heap.size 26 5 v4 (out.take k ++ out.drop cap).length (flatC (out.take k ++ out.drop cap)) := by rw [HLB.out, flatC_append]; exact ho4
            have hg4' : W5.grownBy w4 (some g) := grownBy_trans (⟨rfl, rfl, rfl, Nat.le_refl _, fun _ _ _ => rfl⟩ : W5.grownBy W5.drew (some g)) hg4
            all_goals (try go_wp2)
            go_ret
            exact ⟨_, out.take k ++ out.drop cap, q + 1 + 1, rfl, hown4, by rw [HLB.out]; have := HLN.out; have := HM.out.1; have := HM.out.2; have := HK.out; omega, HSB.out, by have := HQ.out; omega, push_reader (v := .slice (some ⟨g, 0, none⟩) k cap) HVK.out HLE.out HR5.out hg4', push_grown (v := .slice (some ⟨g, 0, none⟩) k cap) HVK.out HG5.out hg4'⟩
          · have HCEL := Lib.hid (cmds_cells (show CmdsAt W5.drew (some ⟨g, m * 5, none⟩) (out.length - m) (out.drop m) from own_tailC HO5.out m HM.out.2 (m * 5) (.inl rfl)))
            have HG0 : Hid (W5.drew.grownBy W5.drew (some g)) := ⟨rfl, rfl, rfl, Nat.le_refl _, fun _ _ _ => rfl⟩
            go_upto_region 11 with (fail)
            refine wp_region_held_drew (S := (fun w' => W5.drew.grownBy w' (some g))) (by kernel_rfl) HG0.out (fun hH => ?_)
            refine wpAnyH_take (i := 0) (oi := _) (v := ?_) rfl (by kernel_rfl) (by kernel_rfl) (by kernel_rfl) (fun _ _ _ h => h) (Or.inl ⟨by rfl, ?_⟩) (by assumption) ?_
            rotate_left
            · (intro w hSw; (try dsimp only at hSw); go_simp; try with_reducible rfl)
            try simp only [Act.put, List.getElem_toArray, List.getElem_cons_zero, List.setIfInBounds_toArray, List.set_cons_zero, List.set_cons_succ]
            refine wpAnyH_take (i := 1) (oi := _) (v := ?_) rfl (by kernel_rfl) (by kernel_rfl) (by kernel_rfl) (fun _ _ _ h => h) (Or.inl ⟨by rfl, ?_⟩) (by assumption) ?_
            rotate_left
            · (intro w hSw; (try dsimp only at hSw); go_simp; try with_reducible rfl)
            try simp only [Act.put, List.getElem_toArray, List.getElem_cons_zero, List.getElem_cons_succ, List.setIfInBounds_toArray, List.set_cons_zero, List.set_cons_succ]
            refine wpAnyH_take (i := 2) (oi := _) (v := ?_) rfl (by kernel_rfl) (by kernel_rfl) (by kernel_rfl) (fun _ _ _ h => h) (Or.inl ⟨by rfl, ?_⟩) (by assumption) ?_
            rotate_left
            · (intro w hSw; (try dsimp only at hSw); go_simp; try with_reducible rfl)
            try simp only [Act.put, List.getElem_toArray, List.getElem_cons_zero, List.getElem_cons_succ, List.setIfInBounds_toArray, List.set_cons_zero, List.set_cons_succ]
            refine wpAnyH_take (i := 3) (oi := _) (v := ?_) rfl (by kernel_rfl) (by kernel_rfl) (by kernel_rfl) (fun _ _ _ h => h) (Or.inl ⟨by rfl, ?_⟩) (by assumption) ?_
            rotate_left
            · (intro w hSw; (try dsimp only at hSw); go_simp; try with_reducible rfl)
            try simp only [Act.put, List.getElem_toArray, List.getElem_cons_zero, List.getElem_cons_succ, List.setIfInBounds_toArray, List.set_cons_zero, List.set_cons_succ]
            refine wpAnyH_take (i := 4) (oi := _) (v := ?_) rfl (by kernel_rfl) (by kernel_rfl) (by kernel_rfl) (fun _ _ _ h => h) (Or.inl ⟨by rfl, ?_⟩) (by assumption) ?_
            rotate_left
            · (intro w hSw; (try dsimp only at hSw); go_simp; try with_reducible rfl)
            try simp only [Act.put, List.getElem_toArray, List.getElem_cons_zero, List.getElem_cons_succ, List.setIfInBounds_toArray, List.set_cons_zero, List.set_cons_succ]
            refine wpAnyH_take (i := 5) (oi := _) (v := ?_) rfl (by kernel_rfl) (by kernel_rfl) (by kernel_rfl) (fun _ _ _ h => h) (Or.inl ⟨by rfl, ?_⟩) (by assumption) ?_
            rotate_left
            · (intro w hSw; (try dsimp only at hSw); go_simp; try with_reducible rfl)
            try simp only [Act.put, List.getElem_toArray, List.getElem_cons_zero, List.getElem_cons_succ, List.setIfInBounds_toArray, List.set_cons_zero, List.set_cons_succ]
            refine wpAnyH_take (i := 6) (oi := _) (v := ?_) rfl (by kernel_rfl) (by kernel_rfl) (by kernel_rfl) (fun _ _ _ h => h) (Or.inl ⟨by rfl, ?_⟩) (by assumption) ?_
            rotate_left
            · (intro w hSw; (try dsimp only at hSw); go_simp; try with_reducible rfl)
            try simp only [Act.put, List.getElem_toArray, List.getElem_cons_zero, List.getElem_cons_succ, List.setIfInBounds_toArray, List.set_cons_zero, List.set_cons_succ]
            refine wpAnyH_ready (rs := [7]) (by kernel_rfl) (by simp) ?_
            refine AllReadyH.cons rfl (fun K hK => ?_) (AllReadyH.nil)
            rw [if_pos (by rfl)]
            refine wp_append_own _ _ _ 36 rfl W.heap.size 26 i0 (.agg #[.string ⟨#[]⟩, .int .i64 0, .int .i64 0, .int .i64 0, .int .i64 0]) 5 48 Try.underlying36 hi hz0 hz1 hz2 rfl (by decide) (.slice (some ⟨g, 0, none⟩) k cap) k (flatC (out.take k)) rfl HTK.out ⟨g, m * 5, none⟩ (out.length - m) (cap - m) (flatC (out.drop m)) rfl HFL.out HCEL.out (flatC_cell1 _) HMX.out.1 HMX.out.2 HBS.out ?_
            intro v4 w4 ho4 hg4 hn4
            refine hK.out _ _ hg4 (fun hHeld => ?_)
            try simp only [Act.put, List.getElem_toArray, List.getElem_cons_zero, List.getElem_cons_succ, List.setIfInBounds_toArray, List.set_cons_zero, List.set_cons_succ]
            refine wpAnyH_take (i := 8) (oi := _) (v := ?_) rfl (by kernel_rfl) (by kernel_rfl) (by kernel_rfl) (fun _ _ _ h => h) (Or.inl ⟨by rfl, ?_⟩) (by assumption) ?_
            rotate_left
            · (intro w hSw; (try dsimp only at hSw); go_simp; try with_reducible rfl)
            try simp only [Act.put, List.getElem_toArray, List.getElem_cons_zero, List.getElem_cons_succ, List.setIfInBounds_toArray, List.set_cons_zero, List.set_cons_succ]
            refine wpAnyH_done (by kernel_rfl) ?_ _
            have hown4 : w4.ownsRow W.heap.size 26 5 v4 (out.take k ++ out.drop m).length (flatC (out.take k ++ out.drop m)) := by rw [HLB.out, flatC_append]; exact ho4
            have hg4' : W5.grownBy w4 (some g) := grownBy_trans (⟨rfl, rfl, rfl, Nat.le_refl _, fun _ _ _ => rfl⟩ : W5.grownBy W5.drew (some g)) hg4
            all_goals (try go_wp2)
            go_ret
            exact ⟨_, out.take k ++ out.drop m, q + 1 + 1, rfl, hown4, by rw [HLB.out]; have := HLN.out; have := HM.out.1; have := HM.out.2; have := HK.out; omega, HSB.out, by have := HQ.out; omega, push_reader (v := .slice (some ⟨g, 0, none⟩) k cap) HVK.out HLE.out HR5.out hg4', push_grown (v := .slice (some ⟨g, 0, none⟩) k cap) HVK.out HG5.out hg4'⟩
        · have ht1 : (tt == 1) = false := beq_eq_false_iff_ne.2 ht
          clear ht
          by_cases ht : tt = 2
          · subst ht
            clear t0 t1
            obtain ⟨x0, x1, x2, x3, x4⟩ := flatC_get out k x HX.out
            have c0 : W5.cell? ⟨g, k * 5, none⟩ = some (.string x.p) := by rw [HO5.out.cellAt _ (by have := HK.out; omega)]; exact x0
            have c1 : W5.cell? ⟨g, k * 5 + 1, none⟩ = some (.int .i64 x.fk) := by rw [HO5.out.cellAt _ (by have := HK.out; omega)]; exact x1
            have c2 : W5.cell? ⟨g, k * 5 + 2, none⟩ = some (.int .i64 x.fv) := by rw [HO5.out.cellAt _ (by have := HK.out; omega)]; exact x2
            have c3 : W5.cell? ⟨g, k * 5 + 3, none⟩ = some (.int .i64 x.tk) := by rw [HO5.out.cellAt _ (by have := HK.out; omega)]; exact x3
            have c4 : W5.cell? ⟨g, k * 5 + 4, none⟩ = some (.int .i64 x.tv) := by rw [HO5.out.cellAt _ (by have := HK.out; omega)]; exact x4
            clear x0 x1 x2 x3 x4
            go_wp2_with (at_builtin; refine wpList_append_cmds rfl _ _ rfl W.heap.size _ out rfl (HO5.out.alloc _) _ _ _ [x] rfl (cmds_lit W5 x) (by have := HLN.out; simp; omega) (by have := HG5.out.size; simp; omega) ?_; intro v' w6 ho6 hg6)
            have hg6' := grownBy_trans (grownBy_new W5 (.cells #[.string x.p, .int .i64 x.fk, .int .i64 x.fv, .int .i64 x.tk, .int .i64 x.tv] 26) _) hg6
            go_ret
            exact ⟨_, out ++ [x], q + 1 + 1, rfl, ho6, by simp; have := HLN.out; omega, shortC_push HSH.out (HSH.out.at HX.out), by have := HQ.out; omega, push_reader HVB.out HLE.out HR5.out hg6', push_grown HVB.out HG5.out hg6'⟩
          · have ht2 : (tt == 2) = false := beq_eq_false_iff_ne.2 ht
            clear ht
            by_cases ht : tt = 3
            · subst ht
              clear t0 t1
              go_wp2_with fail
              refine (HOF.out (q + 1 + 1) _ (by have := HQ.out; have := HPP.out; omega) HR5.out).mono ?_
              rintro e W6 ⟨s, hm6, rfl, hR6, hg6⟩
              have HO6 := Lib.hid (own_reader HO5.out HLT.out hg6)
              have HG6 := Lib.hid (grownBy_trans HG5.out hg6)
              have HR6 := Lib.hid hR6
              have HS6 := Lib.hid (show s.size ≤ 66 by rcases (by simpa [brokenPaths] using hm6) with rfl | rfl | rfl <;> decide)
              obtain ⟨x0, -, -, -, -⟩ := flatC_get out k x HX.out
              have c0 : W6.cell? ⟨g, k * 5, none⟩ = some (.string x.p) := by rw [HO6.out.cellAt _ (by have := HK.out; omega)]; exact x0
              have z0 := HO6.out.frozenAt (k * 5)
              clear hR6 hg6 x0 hm6
              go_wp2
              go_ret
              exact ⟨_, out.set k ⟨s, x.fk, x.fv, x.tk, x.tv⟩, _, rfl, own_setPath HO6.out HX.out s, by rw [List.length_set]; have := HLN.out; omega, shortC_set HSH.out HS6.out, by have := HQ.out; omega,
                HR6.out.setNew _ _ (by have := HLE.out; have := HB.out.1; show N0 ≤ g; omega), grownBy_setCell_new HG6.out _ _ HB.out.1⟩
            · have ht3 : (tt == 3) = false := beq_eq_false_iff_ne.2 ht
              clear ht t0 t1
              go_wp2
              go_ret
              exact ⟨_, out, q + 1 + 1, rfl, HO5.out, by have := HLN.out; omega, HSH.out, by have := HQ.out; omega, HR5.out, HG5.out⟩
  · have hr' : (r == 0) = false := beq_eq_false_iff_ne.2 hr
    clear r0 r1 hr
    go_wp2_with fail
    refine (HT.out n (HN.out.1) (by have := HN.out.2; omega) _ HW2.out HO2.out HR2.out).mono ?_; rintro e W3 ⟨v, out, q, rfl, hown0, hlen, hsh, hq, hR3, hg3⟩
    have hown := own_mono hown0 HG2.out.size
    have HG3 := Lib.hid (grownBy_trans HG2.out hg3)
    have HSH := Lib.hid hsh
    have HLN := Lib.hid hlen
    have HQ := Lib.hid hq
    have HR3 := Lib.hid hR3
    clear hown0 hg3 hsh hlen hq hR3
    by_cases hl0 : out.length = 0
    · obtain ⟨a, cap, rfl, -⟩ := cmds_of_own hown
      have HO := Lib.hid hown
      have hl0' : (out.length : Int) = 0 := by omega
      clear hl0 hown
      go_wp2
      go_ret
      exact ⟨_, out, q, rfl, HO.out, by have := HLN.out; omega, HSH.out, by have := HQ.out; omega, HR3.out, HG3.out⟩
    · have hl0 : 0 < out.length := by omega
      have hl1 : (0 : Int) < out.length := by omega
      obtain ⟨g, cap, rfl, hgb, hlc, hcm⟩ := own_sliceC hown hl0
      have HB := Lib.hid (And.intro hgb (And.intro hlc hcm))
      have HO3 := Lib.hid hown
      clear hgb hlc hcm hown
      go_wp2_with fail
      refine (HPK.out q out.length (by omega) (by have := HLN.out; omega) _ (by have := HQ.out; have := HPP.out; omega) HR3.out).mono ?_; rintro e W4 ⟨k', rfl, k0, k1, hR4, hg4⟩
      obtain ⟨k, rfl⟩ := Int.eq_ofNat_of_zero_le k0
      have HK := Lib.hid (show k < out.length by omega)
      have HO4 := Lib.hid (own_reader HO3.out HLT.out hg4)
      clear k0 k1
      go_wp2_with fail
      refine (HPK.out (q + 1) 14 (by omega) (by omega) _ (by have := HQ.out; have := HPP.out; omega) hR4).mono ?_; rintro e W5 ⟨tt, rfl, t0, t1, hR5, hg5⟩
      have HO5 := Lib.hid (own_reader HO4.out HLT.out hg5)
      have HG5 := Lib.hid (grownBy_trans HG3.out (grownBy_trans hg4 hg5))
      have HR5 := Lib.hid hR5
      obtain ⟨x, hx⟩ : ∃ x, out[k]? = some x := ⟨_, List.getElem?_eq_getElem HK.out⟩
      have HX := Lib.hid hx
      have hkl : (k : Int) < out.length := by have := HK.out; omega
      have HVB := Lib.hid (fun k (e : (Value.slice (some ⟨g, 0, none⟩) out.length cap).ownBlock = some k) => (HO5.out.lt k e).1)
      clear hx hg4 hg5 hR4 hR5 hl0
      by_cases ht : tt = 0
      · subst ht
        clear t0 t1
        go_wp2_with fail
        refine (HC.out (q + 1 + 1) _ (by have := HQ.out; have := HPP.out; omega) HR5.out).mono ?_; rintro e W6 ⟨k6, v6, q6, rfl, -, -, -, -, hq6, hR6, hg6⟩
        have HO6 := Lib.hid (own_reader HO5.out HLT.out hg6)
        have HG6 := Lib.hid (grownBy_trans HG5.out hg6)
        have HR6 := Lib.hid hR6
        have HQ6 := Lib.hid hq6
        obtain ⟨-, -, -, x3, x4⟩ := flatC_get out k x HX.out
        have c3 : W6.cell? ⟨g, k * 5 + 3, none⟩ = some (.int .i64 x.tk) := by rw [HO6.out.cellAt _ (by have := HK.out; omega)]; exact x3
        have c4 : W6.cell? ⟨g, k * 5 + 4, none⟩ = some (.int .i64 x.tv) := by rw [HO6.out.cellAt _ (by have := HK.out; omega)]; exact x4
        have z3 := HO6.out.frozenAt (k * 5 + 3)
        have z4 := HO6.out.frozenAt (k * 5 + 4)
        unfold con
        clear hq6 hR6 hg6 x3 x4
        go_wp2
        go_ret
        exact ⟨_, out.set k ⟨x.p, x.fk, x.fv, k6, v6⟩, q6, rfl, own_setTo HO6.out HX.out k6 v6, by rw [List.length_set]; have := HLN.out; omega, shortC_set HSH.out (show x.p.size ≤ 66 from HSH.out.at HX.out), by have := HQ.out; have := HQ6.out; omega,
          (HR6.out.setNew _ _ (by have := HLE.out; have := HB.out.1; show N0 ≤ g; omega)).setNew _ _ (by have := HLE.out; have := HB.out.1; show N0 ≤ g; omega), grownBy_setCell_new (grownBy_setCell_new HG6.out _ _ HB.out.1) _ _ HB.out.1⟩
      · have ht0 : (tt == 0) = false := beq_eq_false_iff_ne.2 ht
        clear ht
        by_cases ht : tt = 1
        · subst ht
          clear t0 t1
          have hk2 : (k : Int) ≤ cap := by have := HK.out; have := HB.out.2.1; omega
          have hk0 : (0 : Int) ≤ k := by omega
          have hk3 : (k : Int) + 1 ≤ out.length := by omega
          have hlc2 : (out.length : Int) ≤ cap := by have := HB.out.2.1; omega
          obtain ⟨m, hm⟩ : ∃ m, m = k + 1 := ⟨_, rfl⟩
          have hwr : IntKind.i64.wrap ((k : Int) + 1) = (m : Int) := (IntWalk.i64_in _ (by have := HLN.out; omega)).trans (by omega)
          have hm0 : (0 : Int) ≤ m := by omega
          have hm1 : (m : Int) ≤ out.length := by omega
          have hm2 : (m : Int) ≤ cap := by omega
          have hmm : m ≤ out.length := by omega
          have HM := Lib.hid (And.intro hm hmm)
          have HTK := Lib.hid (show W5.drew.ownsRow W.heap.size 26 5 (.slice (some ⟨g, 0, none⟩) k cap) k (flatC (out.take k)) by
            have := own_takeC HO5.out k (by have := HK.out; omega)
            rw [show (out.take k).length = k by rw [List.length_take]; have := HK.out; omega] at this
            exact this)
          have HFL := Lib.hid (show (flatC (out.drop m)).length = (out.length - m) * 5 by rw [flatC_length, List.length_drop])
          have HMX := Lib.hid (show k + (out.length - m) ≤ maxLen ∧ (k + (out.length - m)) * 48 ≤ 140737488355328 by unfold maxLen; have := HLN.out; have := HK.out; omega)
          have HBS := Lib.hid (show W.heap.size ≤ W5.drew.heap.size from HG5.out.size)
          have HSB := Lib.hid (show ShortC 66 (out.take k ++ out.drop m) from shortC_part HSH.out (fun y hy => by
            rcases List.mem_append.1 hy with h | h
            · exact List.mem_of_mem_take h
            · exact List.mem_of_mem_drop h))
          have HLB := Lib.hid (show (out.take k ++ out.drop m).length = k + (out.length - m) by rw [List.length_append, List.length_take, List.length_drop]; have := HK.out; omega)
          clear hm hmm
          have HVK := Lib.hid (fun k' (e : (Value.slice (some ⟨g, 0, none⟩) k cap).ownBlock = some k') => show W.heap.size ≤ k' by cases e; exact HB.out.1)
          by_cases hcap : cap = m
          · subst hcap
            have HCEL := Lib.hid (cmds_cells (show CmdsAt W5.drew (some ⟨g, 0, none⟩) (out.length - cap) (out.drop cap) from own_tailC HO5.out cap HM.out.2 0 (.inr (by have h1 := HB.out.2.1; have h2 := HM.out.2; omega))))
            have HG0 : Hid (W5.drew.grownBy W5.drew (some g)) := ⟨rfl, rfl, rfl, Nat.le_refl _, fun _ _ _ => rfl⟩
            go_upto_region 11 with (fail)
            refine wp_region_held_drew (S := (fun w' => W5.drew.grownBy w' (some g))) (by kernel_rfl) HG0.out (fun hH => ?_)
            refine wpAnyH_take (i := 0) (oi := _) (v := ?_) rfl (by kernel_rfl) (by kernel_rfl) (by kernel_rfl) (fun _ _ _ h => h) (Or.inl ⟨by rfl, ?_⟩) (by assumption) ?_
            rotate_left
            · (intro w hSw; (try dsimp only at hSw); go_simp; try with_reducible rfl)
            try simp only [Act.put, List.getElem_toArray, List.getElem_cons_zero, List.setIfInBounds_toArray, List.set_cons_zero, List.set_cons_succ]
            refine wpAnyH_take (i := 1) (oi := _) (v := ?_) rfl (by kernel_rfl) (by kernel_rfl) (by kernel_rfl) (fun _ _ _ h => h) (Or.inl ⟨by rfl, ?_⟩) (by assumption) ?_
            rotate_left
            · (intro w hSw; (try dsimp only at hSw); go_simp; try with_reducible rfl)
            try simp only [Act.put, List.getElem_toArray, List.getElem_cons_zero, List.getElem_cons_succ, List.setIfInBounds_toArray, List.set_cons_zero, List.set_cons_succ]
            refine wpAnyH_take (i := 2) (oi := _) (v := ?_) rfl (by kernel_rfl) (by kernel_rfl) (by kernel_rfl) (fun _ _ _ h => h) (Or.inl ⟨by rfl, ?_⟩) (by assumption) ?_
            rotate_left
            · (intro w hSw; (try dsimp only at hSw); go_simp; try with_reducible rfl)
            try simp only [Act.put, List.getElem_toArray, List.getElem_cons_zero, List.getElem_cons_succ, List.setIfInBounds_toArray, List.set_cons_zero, List.set_cons_succ]
            refine wpAnyH_take (i := 3) (oi := _) (v := ?_) rfl (by kernel_rfl) (by kernel_rfl) (by kernel_rfl) (fun _ _ _ h => h) (Or.inl ⟨by rfl, ?_⟩) (by assumption) ?_
            rotate_left
            · (intro w hSw; (try dsimp only at hSw); go_simp; try with_reducible rfl)
            try simp only [Act.put, List.getElem_toArray, List.getElem_cons_zero, List.getElem_cons_succ, List.setIfInBounds_toArray, List.set_cons_zero, List.set_cons_succ]
            refine wpAnyH_take (i := 4) (oi := _) (v := ?_) rfl (by kernel_rfl) (by kernel_rfl) (by kernel_rfl) (fun _ _ _ h => h) (Or.inl ⟨by rfl, ?_⟩) (by assumption) ?_
            rotate_left
            · (intro w hSw; (try dsimp only at hSw); go_simp; try with_reducible rfl)
            try simp only [Act.put, List.getElem_toArray, List.getElem_cons_zero, List.getElem_cons_succ, List.setIfInBounds_toArray, List.set_cons_zero, List.set_cons_succ]
            refine wpAnyH_take (i := 5) (oi := _) (v := ?_) rfl (by kernel_rfl) (by kernel_rfl) (by kernel_rfl) (fun _ _ _ h => h) (Or.inl ⟨by rfl, ?_⟩) (by assumption) ?_
            rotate_left
            · (intro w hSw; (try dsimp only at hSw); go_simp; try with_reducible rfl)
            try simp only [Act.put, List.getElem_toArray, List.getElem_cons_zero, List.getElem_cons_succ, List.setIfInBounds_toArray, List.set_cons_zero, List.set_cons_succ]
            refine wpAnyH_take (i := 6) (oi := _) (v := ?_) rfl (by kernel_rfl) (by kernel_rfl) (by kernel_rfl) (fun _ _ _ h => h) (Or.inl ⟨by rfl, ?_⟩) (by assumption) ?_
            rotate_left
            · (intro w hSw; (try dsimp only at hSw); go_simp; try with_reducible rfl)
            try simp only [Act.put, List.getElem_toArray, List.getElem_cons_zero, List.getElem_cons_succ, List.setIfInBounds_toArray, List.set_cons_zero, List.set_cons_succ]
            refine wpAnyH_ready (rs := [7]) (by kernel_rfl) (by simp) ?_
            refine AllReadyH.cons rfl (fun K hK => ?_) (AllReadyH.nil)
            rw [if_pos (by rfl)]
            refine wp_append_own _ _ _ 36 rfl W.heap.size 26 i0 (.agg #[.string ⟨#[]⟩, .int .i64 0, .int .i64 0, .int .i64 0, .int .i64 0]) 5 48 Try.underlying36 hi hz0 hz1 hz2 rfl (by decide) (.slice (some ⟨g, 0, none⟩) k cap) k (flatC (out.take k)) rfl HTK.out ⟨g, 0, none⟩ (out.length - cap) 0 (flatC (out.drop cap)) rfl HFL.out HCEL.out (flatC_cell1 _) HMX.out.1 HMX.out.2 HBS.out ?_
            intro v4 w4 ho4 hg4 hn4
            refine hK.out _ _ hg4 (fun hHeld => ?_)
            try simp only [Act.put, List.getElem_toArray, List.getElem_cons_zero, List.getElem_cons_succ, List.setIfInBounds_toArray, List.set_cons_zero, List.set_cons_succ]
            refine wpAnyH_take (i := 8) (oi := _) (v := ?_) rfl (by kernel_rfl) (by kernel_rfl) (by kernel_rfl) (fun _ _ _ h => h) (Or.inl ⟨by rfl, ?_⟩) (by assumption) ?_
            rotate_left
            · (intro w hSw; (try dsimp only at hSw); go_simp; try with_reducible rfl)
            try simp only [Act.put, List.getElem_toArray, List.getElem_cons_zero, List.getElem_cons_succ, List.setIfInBounds_toArray, List.set_cons_zero, List.set_cons_succ]
            refine wpAnyH_done (by kernel_rfl) ?_ _
            have hown4 : w4.ownsRow W.heap.size 26 5 v4 (out.take k ++ out.drop cap).length (flatC (out.take k ++ out.drop cap)) := by rw [HLB.out, flatC_append]; exact ho4
            have hg4' : W5.grownBy w4 (some g) := grownBy_trans (⟨rfl, rfl, rfl, Nat.le_refl _, fun _ _ _ => rfl⟩ : W5.grownBy W5.drew (some g)) hg4
            all_goals (try go_wp2)
            go_ret
            exact ⟨_, out.take k ++ out.drop cap, q + 1 + 1, rfl, hown4, by rw [HLB.out]; have := HLN.out; have := HM.out.1; have := HM.out.2; have := HK.out; omega, HSB.out, by have := HQ.out; omega, push_reader (v := .slice (some ⟨g, 0, none⟩) k cap) HVK.out HLE.out HR5.out hg4', push_grown (v := .slice (some ⟨g, 0, none⟩) k cap) HVK.out HG5.out hg4'⟩
          · have HCEL := Lib.hid (cmds_cells (show CmdsAt W5.drew (some ⟨g, m * 5, none⟩) (out.length - m) (out.drop m) from own_tailC HO5.out m HM.out.2 (m * 5) (.inl rfl)))
            have HG0 : Hid (W5.drew.grownBy W5.drew (some g)) := ⟨rfl, rfl, rfl, Nat.le_refl _, fun _ _ _ => rfl⟩
            go_upto_region 11 with (fail)
            refine wp_region_held_drew (S := (fun w' => W5.drew.grownBy w' (some g))) (by kernel_rfl) HG0.out (fun hH => ?_)
            refine wpAnyH_take (i := 0) (oi := _) (v := ?_) rfl (by kernel_rfl) (by kernel_rfl) (by kernel_rfl) (fun _ _ _ h => h) (Or.inl ⟨by rfl, ?_⟩) (by assumption) ?_
            rotate_left
            · (intro w hSw; (try dsimp only at hSw); go_simp; try with_reducible rfl)
            try simp only [Act.put, List.getElem_toArray, List.getElem_cons_zero, List.setIfInBounds_toArray, List.set_cons_zero, List.set_cons_succ]
            refine wpAnyH_take (i := 1) (oi := _) (v := ?_) rfl (by kernel_rfl) (by kernel_rfl) (by kernel_rfl) (fun _ _ _ h => h) (Or.inl ⟨by rfl, ?_⟩) (by assumption) ?_
            rotate_left
            · (intro w hSw; (try dsimp only at hSw); go_simp; try with_reducible rfl)
            try simp only [Act.put, List.getElem_toArray, List.getElem_cons_zero, List.getElem_cons_succ, List.setIfInBounds_toArray, List.set_cons_zero, List.set_cons_succ]
            refine wpAnyH_take (i := 2) (oi := _) (v := ?_) rfl (by kernel_rfl) (by kernel_rfl) (by kernel_rfl) (fun _ _ _ h => h) (Or.inl ⟨by rfl, ?_⟩) (by assumption) ?_
            rotate_left
            · (intro w hSw; (try dsimp only at hSw); go_simp; try with_reducible rfl)
            try simp only [Act.put, List.getElem_toArray, List.getElem_cons_zero, List.getElem_cons_succ, List.setIfInBounds_toArray, List.set_cons_zero, List.set_cons_succ]
            refine wpAnyH_take (i := 3) (oi := _) (v := ?_) rfl (by kernel_rfl) (by kernel_rfl) (by kernel_rfl) (fun _ _ _ h => h) (Or.inl ⟨by rfl, ?_⟩) (by assumption) ?_
            rotate_left
            · (intro w hSw; (try dsimp only at hSw); go_simp; try with_reducible rfl)
            try simp only [Act.put, List.getElem_toArray, List.getElem_cons_zero, List.getElem_cons_succ, List.setIfInBounds_toArray, List.set_cons_zero, List.set_cons_succ]
            refine wpAnyH_take (i := 4) (oi := _) (v := ?_) rfl (by kernel_rfl) (by kernel_rfl) (by kernel_rfl) (fun _ _ _ h => h) (Or.inl ⟨by rfl, ?_⟩) (by assumption) ?_
            rotate_left
            · (intro w hSw; (try dsimp only at hSw); go_simp; try with_reducible rfl)
            try simp only [Act.put, List.getElem_toArray, List.getElem_cons_zero, List.getElem_cons_succ, List.setIfInBounds_toArray, List.set_cons_zero, List.set_cons_succ]
            refine wpAnyH_take (i := 5) (oi := _) (v := ?_) rfl (by kernel_rfl) (by kernel_rfl) (by kernel_rfl) (fun _ _ _ h => h) (Or.inl ⟨by rfl, ?_⟩) (by assumption) ?_
            rotate_left
            · (intro w hSw; (try dsimp only at hSw); go_simp; try with_reducible rfl)
            try simp only [Act.put, List.getElem_toArray, List.getElem_cons_zero, List.getElem_cons_succ, List.setIfInBounds_toArray, List.set_cons_zero, List.set_cons_succ]
            refine wpAnyH_take (i := 6) (oi := _) (v := ?_) rfl (by kernel_rfl) (by kernel_rfl) (by kernel_rfl) (fun _ _ _ h => h) (Or.inl ⟨by rfl, ?_⟩) (by assumption) ?_
            rotate_left
            · (intro w hSw; (try dsimp only at hSw); go_simp; try with_reducible rfl)
            try simp only [Act.put, List.getElem_toArray, List.getElem_cons_zero, List.getElem_cons_succ, List.setIfInBounds_toArray, List.set_cons_zero, List.set_cons_succ]
            refine wpAnyH_ready (rs := [7]) (by kernel_rfl) (by simp) ?_
            refine AllReadyH.cons rfl (fun K hK => ?_) (AllReadyH.nil)
            rw [if_pos (by rfl)]
            refine wp_append_own _ _ _ 36 rfl W.heap.size 26 i0 (.agg #[.string ⟨#[]⟩, .int .i64 0, .int .i64 0, .int .i64 0, .int .i64 0]) 5 48 Try.underlying36 hi hz0 hz1 hz2 rfl (by decide) (.slice (some ⟨g, 0, none⟩) k cap) k (flatC (out.take k)) rfl HTK.out ⟨g, m * 5, none⟩ (out.length - m) (cap - m) (flatC (out.drop m)) rfl HFL.out HCEL.out (flatC_cell1 _) HMX.out.1 HMX.out.2 HBS.out ?_
            intro v4 w4 ho4 hg4 hn4
            refine hK.out _ _ hg4 (fun hHeld => ?_)
            try simp only [Act.put, List.getElem_toArray, List.getElem_cons_zero, List.getElem_cons_succ, List.setIfInBounds_toArray, List.set_cons_zero, List.set_cons_succ]
            refine wpAnyH_take (i := 8) (oi := _) (v := ?_) rfl (by kernel_rfl) (by kernel_rfl) (by kernel_rfl) (fun _ _ _ h => h) (Or.inl ⟨by rfl, ?_⟩) (by assumption) ?_
            rotate_left
            · (intro w hSw; (try dsimp only at hSw); go_simp; try with_reducible rfl)
            try simp only [Act.put, List.getElem_toArray, List.getElem_cons_zero, List.getElem_cons_succ, List.setIfInBounds_toArray, List.set_cons_zero, List.set_cons_succ]
            refine wpAnyH_done (by kernel_rfl) ?_ _
            have hown4 : w4.ownsRow W.heap.size 26 5 v4 (out.take k ++ out.drop m).length (flatC (out.take k ++ out.drop m)) := by rw [HLB.out, flatC_append]; exact ho4
            have hg4' : W5.grownBy w4 (some g) := grownBy_trans (⟨rfl, rfl, rfl, Nat.le_refl _, fun _ _ _ => rfl⟩ : W5.grownBy W5.drew (some g)) hg4
            all_goals (try go_wp2)
            go_ret
            exact ⟨_, out.take k ++ out.drop m, q + 1 + 1, rfl, hown4, by rw [HLB.out]; have := HLN.out; have := HM.out.1; have := HM.out.2; have := HK.out; omega, HSB.out, by have := HQ.out; omega, push_reader (v := .slice (some ⟨g, 0, none⟩) k cap) HVK.out HLE.out HR5.out hg4', push_grown (v := .slice (some ⟨g, 0, none⟩) k cap) HVK.out HG5.out hg4'⟩
        · have ht1 : (tt == 1) = false := beq_eq_false_iff_ne.2 ht
          clear ht
          by_cases ht : tt = 2
          · subst ht
            clear t0 t1
            obtain ⟨x0, x1, x2, x3, x4⟩ := flatC_get out k x HX.out
            have c0 : W5.cell? ⟨g, k * 5, none⟩ = some (.string x.p) := by rw [HO5.out.cellAt _ (by have := HK.out; omega)]; exact x0
            have c1 : W5.cell? ⟨g, k * 5 + 1, none⟩ = some (.int .i64 x.fk) := by rw [HO5.out.cellAt _ (by have := HK.out; omega)]; exact x1
            have c2 : W5.cell? ⟨g, k * 5 + 2, none⟩ = some (.int .i64 x.fv) := by rw [HO5.out.cellAt _ (by have := HK.out; omega)]; exact x2
            have c3 : W5.cell? ⟨g, k * 5 + 3, none⟩ = some (.int .i64 x.tk) := by rw [HO5.out.cellAt _ (by have := HK.out; omega)]; exact x3
            have c4 : W5.cell? ⟨g, k * 5 + 4, none⟩ = some (.int .i64 x.tv) := by rw [HO5.out.cellAt _ (by have := HK.out; omega)]; exact x4
            clear x0 x1 x2 x3 x4
            go_wp2_with (at_builtin; refine wpList_append_cmds rfl _ _ rfl W.heap.size _ out rfl (HO5.out.alloc _) _ _ _ [x] rfl (cmds_lit W5 x) (by have := HLN.out; simp; omega) (by have := HG5.out.size; simp; omega) ?_; intro v' w6 ho6 hg6)
            have hg6' := grownBy_trans (grownBy_new W5 (.cells #[.string x.p, .int .i64 x.fk, .int .i64 x.fv, .int .i64 x.tk, .int .i64 x.tv] 26) _) hg6
            go_ret
            exact ⟨_, out ++ [x], q + 1 + 1, rfl, ho6, by simp; have := HLN.out; omega, shortC_push HSH.out (HSH.out.at HX.out), by have := HQ.out; omega, push_reader HVB.out HLE.out HR5.out hg6', push_grown HVB.out HG5.out hg6'⟩
          · have ht2 : (tt == 2) = false := beq_eq_false_iff_ne.2 ht
            clear ht
            by_cases ht : tt = 3
            · subst ht
              clear t0 t1
              go_wp2_with fail
              refine (HOF.out (q + 1 + 1) _ (by have := HQ.out; have := HPP.out; omega) HR5.out).mono ?_
              rintro e W6 ⟨s, hm6, rfl, hR6, hg6⟩
              have HO6 := Lib.hid (own_reader HO5.out HLT.out hg6)
              have HG6 := Lib.hid (grownBy_trans HG5.out hg6)
              have HR6 := Lib.hid hR6
              have HS6 := Lib.hid (show s.size ≤ 66 by rcases (by simpa [brokenPaths] using hm6) with rfl | rfl | rfl <;> decide)
              obtain ⟨x0, -, -, -, -⟩ := flatC_get out k x HX.out
              have c0 : W6.cell? ⟨g, k * 5, none⟩ = some (.string x.p) := by rw [HO6.out.cellAt _ (by have := HK.out; omega)]; exact x0
              have z0 := HO6.out.frozenAt (k * 5)
              clear hR6 hg6 x0 hm6
              go_wp2
              go_ret
              exact ⟨_, out.set k ⟨s, x.fk, x.fv, x.tk, x.tv⟩, _, rfl, own_setPath HO6.out HX.out s, by rw [List.length_set]; have := HLN.out; omega, shortC_set HSH.out HS6.out, by have := HQ.out; omega,
                HR6.out.setNew _ _ (by have := HLE.out; have := HB.out.1; show N0 ≤ g; omega), grownBy_setCell_new HG6.out _ _ HB.out.1⟩
            · have ht3 : (tt == 3) = false := beq_eq_false_iff_ne.2 ht
              clear ht t0 t1
              go_wp2
              go_ret
              exact ⟨_, out, q + 1 + 1, rfl, HO5.out, by have := HLN.out; omega, HSH.out, by have := HQ.out; omega, HR5.out, HG5.out⟩

end Go.Proofs.Ytoipbocbgadjbaa

/-
  WALKS: drawn logs, out of the code: spec.DrawLogValid, DrawLogUndo, DrawLogApply, DrawLogFits.
-/
namespace Go.Proofs.Ytoipbocbgadjbaa
open Go.RowKit
set_option linter.unusedVariables false

/-- A drawn log, out of the code. -/
def LogsPost (W : World) (e : Ending) (W' : World) : Prop :=
  ∃ (sl : Value) (cs : List Cmd), e = .returned sl ∧ W'.ownsRow W.heap.size 26 5 sl cs.length (flatC cs) ∧ cs.length ≤ 21 ∧ ShortC 66 cs ∧ Below W.heap.size W W'

set_option maxHeartbeats 1000000 in
set_option maxRecDepth 100000 in
theorem drawLogValid_c (a : Option Addr) (len cap : Nat) (zs : List Int) (W : World) (h : IsRow .u8 W a len cap zs) :
    Calls Try.prog 42 #[.slice a len cap] W (LogsPost W) := by
  have HO := Lib.hid (l6Open_c a len cap zs W h)
  have HT := Lib.hid (fun W1 hR => l91Tree_c (W.heap.size + 1) W.heap.size 0 8 (by omega) (by omega) W1 (by omega) hR)
  clear h
  go_enter Try.func42, Try.ntmps42
  go_wp2_with fail
  refine HO.out.mono ?_; rintro e W1 ⟨rfl, hR, hB⟩
  have HS1 := Lib.hid (show W.heap.size < W1.heap.size from hR.lt)
  have HB1 := Lib.hid hB
  clear hB
  go_wp2_with fail
  refine (HT.out _ hR).mono ?_; rintro e W2 ⟨sl, ns, q, rfl, hown, -, hl, hs, hq, hR2, hg⟩
  have HG2 := Lib.hid hg
  have HBK := Lib.hid (l91Broken_c (W.heap.size + 1) W.heap.size q W1.heap.size sl ns (by omega) hs HS1.out W2 hg.size hown (by omega) hR2)
  clear hown hl hs hg hR hq hR2
  go_wp2_with fail
  refine HBK.out.mono ?_; rintro e W3 ⟨v, out, q3, rfl, hown3, hl3, hs3, -, -, hg3⟩
  have B3 := Lib.hid (below_of_reader HB1.out (grownBy_trans HG2.out hg3))
  have HX := Lib.hid (And.intro hl3 (And.intro hs3 (own_mono hown3 (show W.heap.size ≤ W2.heap.size by have h1 := HS1.out; have h2 := HG2.out.size; omega))))
  clear hown3 hl3 hs3 hg3
  go_wp2
  go_ret
  exact ⟨_, out, rfl, HX.out.2.2, HX.out.1, HX.out.2.1, B3.out⟩

/-- A drawn tree and a drawn log. -/
def TreeLogPost (W : World) (e : Ending) (W' : World) : Prop :=
  ∃ (sl : Value) (ns : List Nd) (v : Value) (cs : List Cmd), e = .returned (.tuple #[sl, v]) ∧ Drawn W W' sl ns ∧ W'.ownsRow W.heap.size 26 5 v cs.length (flatC cs) ∧ cs.length ≤ 21 ∧ ShortC 66 cs

end Go.Proofs.Ytoipbocbgadjbaa

/-
  WALKS: laws.sameInts, laws.sameTable, at equal lists.
-/
namespace Go.Proofs.Ytoipbocbgadjbaa
open Go.RowKit
set_option linter.unusedVariables false

def SameRel (len : Nat) (W : World) (i : Value) (wr : World) : Prop := ∃ n : Nat, i = .int .i64 n ∧ n ≤ len ∧ Hid (Below W.heap.size W wr)

theorem below_drewN1 {n : Nat} {W W' : World} (h : Below n W W') (k : Nat) : Below n W (W'.drewN k) := by
  have e := (drewN_cell W' k ⟨0, 0, none⟩).2.2
  exact ⟨h.os, h.tape, h.output, by rw [e]; exact h.size, fun j hj => by rw [e]; exact h.block j hj⟩

set_option maxHeartbeats 1000000 in
theorem sameInts_c (a1 a2 : Option Addr) (len c1 c2 : Nat) (zs : List Int) (hl : len ≤ 2097152) (W : World) (h1 : IntsAt W a1 len zs) (h2 : IntsAt W a2 len zs) :
    Calls Try.prog 12 #[.slice a1 len c1, .slice a2 len c2] W (BoolPost true W) := by
  have H1 := Lib.hid h1
  have H2 := Lib.hid h2
  clear h1 h2
  go_enter Try.func12, Try.ntmps12
  go_wp2
  go_loopw [5] (fun i wr => SameRel len W i wr) (fun i _ => len - (intOf i).toNat)
  case atStart => exact ⟨0, rfl, by omega, Below.refl _ _⟩
  case round =>
    obtain ⟨i, rfl, hi, HB⟩ := hrel
    by_cases hlt : i < len
    · obtain ⟨b, off, n, rfl, hn, x0⟩ := (H1.out.keep HB.out).at hlt
      obtain ⟨b', off', n', rfl, hn', y0⟩ := (H2.out.keep HB.out).at hlt
      obtain rfl : n = n' := Option.some.inj (hn.symm.trans hn')
      have hlt' : (i : Int) < len := by omega
      have hi0 : (0 : Int) ≤ i := by omega
      have HLT := Lib.hid hlt
      clear hi hlt hn hn'
      go_wp2
      go_quiet (fail)
      have HB2 := Lib.hid (below_drewN1 HB.out nq)
      clear x0 y0
      go_wp2
      go_roundw
      case rel => exact ⟨i + 1, by go_num, by have := HLT.out; omega, HB2⟩
      case measure => have := HLT.out; simp [intOf]; omega
    · have hge : (len : Int) ≤ i := by omega
      clear hi hlt
      go_wp2
      go_ret
      exact ⟨rfl, HB.out⟩

theorem tab_of_own {W : World} {base : Nat} {e : TypeId} {v : Value} {vs : List Value} {bs : List (List Int)} (h : W.ownsRow base e 1 v bs.length vs) (hi : Inner W base vs bs) :
    ∃ a cap, v = .slice a bs.length cap ∧ TabAt W a bs.length bs := by
  rcases h.2 with ⟨rfl, h0⟩ | ⟨g, cap, cur, rfl, h1, h2, h3, h4, h5, h6⟩
  · exact ⟨none, 0, by rw [h0], rfl, .inl h0⟩
  · refine ⟨some ⟨g, 0, none⟩, cap, rfl, rfl, .inr ⟨g, 0, rfl, fun i z hz => ?_⟩⟩
    have hlt := (List.getElem?_eq_some_iff.1 hz).1
    obtain ⟨u, hu⟩ : ∃ u, vs[i]? = some u := ⟨_, List.getElem?_eq_getElem (by have := hi.1; omega)⟩
    obtain ⟨ai, ci, rfl, hz2⟩ := ints_of_own (hi.2.1 i z u hz hu)
    refine ⟨ai, ci, ?_, hz2⟩
    rw [Nat.zero_add, h.cellAt i (by omega)]
    exact hu

end Go.Proofs.Ytoipbocbgadjbaa

/-
  WALKS: bodies that are drawn (spec.l91Body).
-/
namespace Go.Proofs.Ytoipbocbgadjbaa
open Go.RowKit
set_option linter.unusedVariables false

/-- A row of the call's own does not mind the reader. -/
theorem own_reader1 {W0 W W' : World} {B n : Nat} {e : TypeId} {v : Value} {xs : List Value} (h : W.ownsRow W0.heap.size e 1 v n xs) (hB : B < W0.heap.size) (hg : W.grownBy W' (some B)) : W'.ownsRow W0.heap.size e 1 v n xs := by
  refine h.kept hg ?_
  have hlt := h.lt
  cases hv : v.ownBlock with
  | none => simp
  | some g => have := (hlt g hv).1; simp; omega

/-- A drawn list of numbers, of the call's own. -/
def BodyDraw (N0 B p : Nat) (W : World) (e : Ending) (W' : World) : Prop :=
  ∃ (sl : Value) (zs : List Int) (q : Nat), e = .returned sl ∧ W'.ownsRow W.heap.size 3 1 sl zs.length (intsV zs) ∧ zs.length ≤ 17 ∧ (∀ z ∈ zs, -1 ≤ z ∧ z ≤ 256) ∧ q ≤ p + 23 ∧ RdAt N0 W' B q ∧ W.grownBy W' (some B)

def BodyRel (N0 B p : Nat) (NN : Nat) (W : World) (o i : Value) (wr : World) : Prop :=
  ∃ (zs : List Int) (q : Nat), i = .int .i64 (zs.length : Nat) ∧ zs.length ≤ NN ∧ wr.ownsRow W.heap.size 3 1 o zs.length (intsV zs) ∧ Hid (∀ z ∈ zs, (0 : Int) ≤ z ∧ z ≤ 255) ∧ Hid (q ≤ p + 3 + zs.length) ∧ RdAt N0 wr B q ∧ Hid (W.grownBy wr (some B))

/-- A number of a table that was made ahead of a draw. -/
theorem pick_cell {W W' : World} {B n : Nat} {r : Int} (t : TypeId) (ns : List Nat) (hB : B < W.heap.size) (hg : (W.alloc (.cells ((ns.map fun (k : Nat) => Value.int .i64 (k : Int)).toArray) t)).grownBy W' (some B)) (h0 : 0 ≤ r) (h1 : r < ns.length) (hm : ∀ k ∈ ns, k ≤ n) :
    ∃ NN : Nat, NN ≤ n ∧ W'.cell? ⟨W.heap.size, r.toNat, none⟩ = some (.int .i64 (NN : Int)) := by
  have hi : r.toNat < ns.length := by omega
  refine ⟨ns[r.toNat], hm _ (List.getElem_mem hi), ?_⟩
  have hb := hg.block W.heap.size (by simp) (by simp; omega)
  rw [World.cell?_of_block hb, World.cell?_alloc_new]
  simp [hi]

theorem own_slice1 {W : World} {base : Nat} {e : TypeId} {v : Value} {zs : List Int} (h : W.ownsRow base e 1 v zs.length (intsV zs)) (h0 : 0 < zs.length) : ∃ g cap, v = .slice (some ⟨g, 0, none⟩) zs.length cap ∧ base ≤ g ∧ g < W.heap.size := by
  rcases h.2 with ⟨_, h1⟩ | ⟨g, cap, cur, rfl, h1, h2, _⟩
  · omega
  · exact ⟨g, cap, rfl, h1, by rw [Array.getElem?_eq_some_iff] at h2; exact h2.1⟩

theorem own_store1 {W : World} {base : Nat} {e : TypeId} {g cap : Nat} {zs : List Int} (h : W.ownsRow base e 1 (.slice (some ⟨g, 0, none⟩) zs.length cap) zs.length (intsV zs)) (k : Nat) (z : Int) :
    (W.setCell ⟨g, k, none⟩ (.int .i64 z)).ownsRow base e 1 (.slice (some ⟨g, 0, none⟩) zs.length cap) (zs.set k z).length (intsV (zs.set k z)) := by
  have := (h.stored k (.int .i64 z)).1
  rw [List.length_set, show intsV (zs.set k z) = (intsV zs).set k (.int .i64 z) by unfold intsV; rw [List.map_set]]
  exact this

theorem own_cell1 {W : World} {base : Nat} {e : TypeId} {g cap : Nat} {zs : List Int} (h : W.ownsRow base e 1 (.slice (some ⟨g, 0, none⟩) zs.length cap) zs.length (intsV zs)) {k : Nat} (hk : k < zs.length) :
    W.cell? ⟨g, k, none⟩ = some (.int .i64 (zs[k]'hk)) := by
  rw [h.cellAt k (by omega)]
  unfold intsV
  rw [List.getElem?_map, List.getElem?_eq_getElem hk]; rfl

theorem pick_bad {W W' : World} {B : Nat} {r : Int} (t : TypeId) (hB : B < W.heap.size) (hg : (W.alloc (.cells #[.int .i64 (-1), .int .i64 256] t)).grownBy W' (some B)) (h0 : 0 ≤ r) (h1 : r < 2) :
    ∃ z : Int, -1 ≤ z ∧ z ≤ 256 ∧ W'.cell? ⟨W.heap.size, r.toNat, none⟩ = some (.int .i64 z) := by
  have hb := hg.block W.heap.size (by simp) (by simp; omega)
  have hr : r = 0 ∨ r = 1 := by omega
  rcases hr with rfl | rfl
  · refine ⟨-1, by omega, by omega, ?_⟩
    rw [World.cell?_of_block hb, World.cell?_alloc_new]; rfl
  · refine ⟨256, by omega, by omega, ?_⟩
    rw [World.cell?_of_block hb, World.cell?_alloc_new]; rfl

end Go.Proofs.Ytoipbocbgadjbaa

/-
  WALKS: lists of bodies that are drawn (spec.l91Bodies).
-/
namespace Go.Proofs.Ytoipbocbgadjbaa
open Go.RowKit
set_option linter.unusedVariables false

/-- The reader does not mind a table of the call's own. -/
theorem Inner.reader {W0 W W' : World} {B : Nat} {vs : List Value} {bs : List (List Int)} (h : Inner W W0.heap.size vs bs) (hB : B < W0.heap.size) (hg : W.grownBy W' (some B)) : Inner W' W0.heap.size vs bs :=
  ⟨h.1, fun i z v hz hv => own_reader1 (h.2.1 i z v hz hv) hB hg, h.2.2⟩

/-- A drawn list of lists, of the call's own. -/
def BodiesDraw (N0 B p : Nat) (W : World) (e : Ending) (W' : World) : Prop :=
  ∃ (sl : Value) (vs : List Value) (bs : List (List Int)) (q : Nat), e = .returned sl ∧ W'.ownsRow W.heap.size 28 1 sl bs.length vs ∧ Inner W' W.heap.size vs bs ∧ bs.length ≤ 41 ∧ ShortT 17 bs ∧ q ≤ p + 1000 ∧ RdAt N0 W' B q ∧ W.grownBy W' (some B)

def BodiesRel (N0 B p : Nat) (NN : Nat) (W : World) (o i : Value) (wr : World) : Prop :=
  ∃ (j : Nat) (vs : List Value) (bs : List (List Int)) (q : Nat), i = .int .i64 j ∧ j ≤ NN ∧ wr.ownsRow W.heap.size 28 1 o bs.length vs ∧ Hid (Inner wr W.heap.size vs bs) ∧ Hid (bs.length ≤ j) ∧ Hid (ShortT 17 bs) ∧ Hid (q ≤ p + 3 + 24 * j) ∧ RdAt N0 wr B q ∧ Hid (W.grownBy wr (some B))

theorem short_push {m : Nat} {bs : List (List Int)} {z : List Int} (h : ShortT m bs) (hz : z.length ≤ m) : ShortT m (bs ++ [z]) := by
  intro x hx
  rcases List.mem_append.1 hx with h1 | h1
  · exact h x h1
  · rw [List.mem_singleton.1 h1]; exact hz

end Go.Proofs.Ytoipbocbgadjbaa

/-
  WALKS: damaged lists (spec.l91Damage); spec.DrawBodySum, DrawFrameOf, DrawFramesOf, DrawFramesScan.
-/
namespace Go.Proofs.Ytoipbocbgadjbaa
open Go.RowKit
set_option linter.unusedVariables false

theorem own_readerN {W W' : World} {B base n : Nat} {e : TypeId} {v : Value} {xs : List Value} (h : W.ownsRow base e 1 v n xs) (hB : B < base) (hg : W.grownBy W' (some B)) : W'.ownsRow base e 1 v n xs := by
  refine h.kept hg ?_
  have hlt := h.lt
  cases hv : v.ownBlock with
  | none => simp
  | some g => have := (hlt g hv).1; simp; omega

theorem own_take1 {W : World} {base : Nat} {e : TypeId} {g cap : Nat} {zs : List Int} (h : W.ownsRow base e 1 (.slice (some ⟨g, 0, none⟩) zs.length cap) zs.length (intsV zs)) {k : Nat} (hk : k ≤ zs.length) :
    W.ownsRow base e 1 (.slice (some ⟨g, 0, none⟩) k cap) (zs.take k).length (intsV (zs.take k)) := by
  have hl : (zs.take k).length = k := by rw [List.length_take]; omega
  refine ⟨by rw [intsV_length]; omega, ?_⟩
  rcases h.2 with ⟨h1, _⟩ | ⟨g', cap', cur, h1, h2, h3, h4, h5, h6, h7⟩
  · simp at h1
  · simp only [Value.slice.injEq, Option.some.injEq, Addr.mk.injEq, and_true, true_and] at h1
    obtain ⟨rfl, rfl⟩ := h1
    refine .inr ⟨g, cap, cur, by rw [hl], h2, h3, by rw [hl]; omega, h5, h6, ?_⟩
    rw [hl]
    have e1 : intsV (zs.take k) = (intsV zs).take k := by unfold intsV; rw [List.map_take]
    rw [e1, ← h7, List.take_take]
    congr 1
    omega

/-- A list that was damaged or not. -/
def DamagePost (n base : Nat) (zs : List Int) (W0 : World) (e : Ending) (W' : World) : Prop :=
  ∃ (sl : Value) (zs' : List Int), e = .returned sl ∧ W'.ownsRow base 3 1 sl zs'.length (intsV zs') ∧ zs'.length ≤ zs.length + 1 ∧ (∀ z ∈ zs', z ∈ zs ∨ (-1 ≤ z ∧ z ≤ 256)) ∧ Below n W0 W'

set_option maxHeartbeats 2000000 in
set_option maxRecDepth 100000 in
theorem l91Damage_c (N0 B p n base : Nat) (sl : Value) (zs : List Int) (W0 W : World) (hp : p < 20000) (hR : RdAt N0 W B p) (hnB : n ≤ B) (hNb : N0 ≤ base) (hbw : base ≤ W.heap.size) (hb : Below n W0 W) (hown : W.ownsRow base 3 1 sl zs.length (intsV zs)) (hl : zs.length ≤ 20000) :
    Calls Try.prog 38 #[.pointer (some ⟨B, 0, none⟩), sl] W (DamagePost n base zs W0) := by
  obtain ⟨i0, hi, hz0, hz1, hz2⟩ := info_parts infoInt
  have HPK := Lib.hid (fun q n h1 h2 W hq hR => pick_c N0 B q n h1 h2 W hq hR)
  have HPP := Lib.hid hp
  have HBN := Lib.hid (show B < base from Nat.lt_of_lt_of_le hR.2.1 hNb)
  have HNB := Lib.hid hnB
  have HB := Lib.hid hb
  have HBW := Lib.hid hbw
  have HL := Lib.hid hl
  by_cases h0 : zs.length = 0
  · have hw := Lib.hid (show DamagePost n base zs W0 (.returned sl) W from ⟨sl, zs, rfl, hown, by omega, fun z hz => .inl hz, hb⟩)
    obtain ⟨a, cap, rfl, -⟩ := ints_of_own hown
    have h0' : (zs.length : Int) = 0 := by omega
    clear hown hl hb hbw hnB hNb hR hp
    rw [h0] at hw ⊢
    clear h0 h0'
    go_enter Try.func38, Try.ntmps38
    go_wp2
    go_ret
    exact hw.out
  · obtain ⟨g, cap, rfl, hgb, -⟩ := own_slice1 hown (by omega)
    have hl1 : (1 : Int) ≤ zs.length := by omega
    have hl2 : (zs.length : Int) ≤ 20000 := by omega
    have hne : ((zs.length : Int) == 0) = false := beq_eq_false_iff_ne.2 (by omega)
    obtain ⟨cc, hcc⟩ : ∃ cc, cap = cc := ⟨_, rfl⟩
    have hcap : zs.length ≤ cap := by
      rcases hown.2 with ⟨h1, _⟩ | ⟨g', cap', cur, h1, h2, h3, h4, h5, h6, h7⟩
      · simp at h1
      · simp only [Value.slice.injEq, Option.some.injEq, Addr.mk.injEq, and_true, true_and] at h1
        obtain ⟨rfl, rfl⟩ := h1
        exact h4
    have HO := Lib.hid hown
    have HRR := Lib.hid hR
    have HGB := Lib.hid hgb
    clear hown hl hb hbw hnB hNb hR hp h0 hgb hcc
    go_enter Try.func38, Try.ntmps38
    go_wp2_with fail
    refine (HPK.out p zs.length (by omega) (by omega) _ (by have := HPP.out; omega) HRR.out).mono ?_
    rintro e W1 ⟨k', rfl, k0, k1, hR1, hg1⟩
    obtain ⟨k, rfl⟩ := Int.eq_ofNat_of_zero_le k0
    have HK := Lib.hid (show k < zs.length by omega)
    have HO1 := Lib.hid (own_readerN HO.out HBN.out hg1)
    have HB1 := Lib.hid (HB.out.grown hg1 (by have := HB.out.size; have := HBW.out; have := HBN.out; have := HNB.out; omega) (fun k e => by cases e; exact HNB.out))
    have HS1 := Lib.hid (Nat.le_trans HBW.out hg1.size)
    have HR1 := Lib.hid hR1
    clear hR1 hg1 k0
    go_wp2_with fail
    refine (HPK.out (p + 1) 5 (by omega) (by omega) _ (by have := HPP.out; omega) HR1.out).mono ?_
    rintro e W2 ⟨s, rfl, s0, s1, hR2, hg2⟩
    have HO2 := Lib.hid (own_readerN HO1.out HBN.out hg2)
    have HB2 := Lib.hid (HB1.out.grown hg2 (by have := HS1.out; have := HBN.out; have := HNB.out; omega) (fun k e => by cases e; exact HNB.out))
    have HS2 := Lib.hid (Nat.le_trans HS1.out hg2.size)
    have HR2 := Lib.hid hR2
    clear hR2 hg2
    by_cases e0 : s = 0
    · subst e0
      clear s0 s1
      have hkc : (k : Int) ≤ cap := by have := HK.out; omega
      have hk0 : (0 : Int) ≤ k := by omega
      go_wp2
      go_ret
      exact ⟨_, zs.take k, rfl, own_take1 HO2.out (by have := HK.out; omega), by rw [List.length_take]; omega, fun z hz => .inl (List.mem_of_mem_take hz), HB2.out⟩
    · have e0' : (s == 0) = false := by simpa using e0
      by_cases e1 : s = 1
      · subst e1
        clear s0 s1 e0 e0'
        go_wp2_with fail
        refine (HPK.out (p + 1 + 1) 258 (by omega) (by omega) _ (by have := HPP.out; omega) HR2.out).mono ?_
        rintro e W3 ⟨y, rfl, y0, y1, hR3, hg3⟩
        have HO3 := Lib.hid (own_readerN HO2.out HBN.out hg3)
        have HB3 := Lib.hid (HB2.out.grown hg3 (by have := HS2.out; have := HBN.out; have := HNB.out; omega) (fun k e => by cases e; exact HNB.out))
        have c1 := own_cell1 HO3.out HK.out
        have z1 := HO3.out.frozenAt k
        have HY := Lib.hid (And.intro y0 y1)
        clear hR3 hg3
        go_wp2
        go_ret
        refine ⟨_, zs.set k (y - 1), rfl, own_store1 HO3.out k _, by rw [List.length_set]; omega, ?_, below_setCell HB3.out _ _ (by have := HBN.out; have := HNB.out; have := HGB.out; show n ≤ g; omega)⟩
        intro z hz
        rcases List.mem_or_eq_of_mem_set hz with h | rfl
        · exact .inl h
        · right; have := HY.out; omega
      · have e1' : (s == 1) = false := by simpa using e1
        by_cases e2 : s = 2
        · subst e2
          clear s0 s1 e0 e0' e1 e1'
          go_wp2_with fail
          refine (HPK.out (p + 1 + 1) 20 (by omega) (by omega) _ (by have := HPP.out; omega) HR2.out).mono ?_
          rintro e W3 ⟨y, rfl, y0, y1, hR3, hg3⟩
          have HO3 := Lib.hid (own_readerN HO2.out HBN.out hg3)
          have HB3 := Lib.hid (HB2.out.grown hg3 (by have := HS2.out; have := HBN.out; have := HNB.out; omega) (fun k e => by cases e; exact HNB.out))
          have HS3 := Lib.hid (Nat.le_trans HS2.out hg3.size)
          have HY := Lib.hid (And.intro y0 y1)
          have hlt3 := HO3.out.lt
          clear hR3 hg3
          go_wp2_with (at_builtin; refine wpList_append_own _ rfl _ _ 28 rfl base 3 i0 (.int .i64 0) 1 8 Try.underlying28 hi hz0 hz1 hz2 rfl (by decide) _ _ _ rfl (HO3.out.alloc _) ⟨W3.heap.size, 0, none⟩ 1 1 [.int .i64 y] rfl rfl (cell_int_new _ _ _) (fun x hx => by simp at hx; subst hx; rfl) (by have := HL.out; unfold maxLen; omega) (by have := HL.out; omega) (by have := HS3.out; simp; omega) ?_; intro v5 w5 ho5 hg5 hn5)
          have B5 : Below n W0 w5 := (HB3.out.alloc (by have := HS3.out; have := HBN.out; have := HNB.out; omega) _).grown hg5 (by have := HS3.out; have := HBN.out; have := HNB.out; simp; omega) (fun g e => by have := (hlt3 g e).1; have := HBN.out; have := HNB.out; omega)
          go_ret
          refine ⟨v5, zs ++ [y], rfl, own_join1 (more := [y]) ho5, by simp, ?_, B5⟩
          intro z hz
          rcases List.mem_append.1 hz with h | h
          · exact .inl h
          · rw [List.mem_singleton.1 h]; right; have := HY.out; omega
        · have e2' : (s == 2) = false := by simpa using e2
          clear e0 e1 e2 s0 s1
          go_wp2
          go_ret
          exact ⟨_, zs, rfl, HO2.out, by omega, fun z hz => .inl hz, HB2.out⟩

theorem framesL_mem {bs : List (List Int)} (h : bs.all bodyOk = true) : ∀ z ∈ framesL bs, (-1 : Int) ≤ z ∧ z ≤ 256 := by
  induction bs with
  | nil => intro z hz; simp [framesL] at hz
  | cons b bs ih =>
    simp only [List.all_cons, Bool.and_eq_true] at h
    intro z hz
    rw [framesL_cons] at hz
    rcases List.mem_append.1 hz with h1 | h1
    · unfold frame at h1
      rcases List.mem_cons.1 h1 with rfl | h2
      · have := bodyOk_len h.1; omega
      · rcases List.mem_append.1 h2 with h3 | h3
        · have := bodyOk_byte h.1 h3; omega
        · rw [List.mem_singleton.1 h3]; have := sumB_range b; omega
    · exact ih h.2 z h1

/-- A drawn list of numbers. -/
def IntsPost (m : Nat) (W : World) (e : Ending) (W' : World) : Prop :=
  ∃ (sl : Value) (zs : List Int), e = .returned sl ∧ W'.ownsRow W.heap.size 3 1 sl zs.length (intsV zs) ∧ zs.length ≤ m ∧ (∀ z ∈ zs, (-1 : Int) ≤ z ∧ z ≤ 256) ∧ Below W.heap.size W W'

/-- A drawn list of lists. -/
def TabPost (W : World) (e : Ending) (W' : World) : Prop :=
  ∃ (sl : Value) (vs : List Value) (bs : List (List Int)), e = .returned sl ∧ W'.ownsRow W.heap.size 28 1 sl bs.length vs ∧ Inner W' W.heap.size vs bs ∧ bs.length ≤ 41 ∧ ShortT 17 bs ∧ Below W.heap.size W W'

theorem Inner.mono {W : World} {b c : Nat} {vs : List Value} {bs : List (List Int)} (h : Inner W c vs bs) (hbc : b ≤ c) : Inner W b vs bs :=
  ⟨h.1, fun i z v hz hv => own_mono1 (h.2.1 i z v hz hv) hbc, h.2.2⟩

end Go.Proofs.Ytoipbocbgadjbaa

/-
  WALKS: drawn bytes of commands: spec.DrawCommandBytes, DrawCommandFrom, DrawLogBytes.
-/
namespace Go.Proofs.Ytoipbocbgadjbaa
open Go.RowKit
set_option linter.unusedVariables false

set_option maxHeartbeats 1000000 in
set_option maxRecDepth 100000 in
theorem drawCommandBytes_c (a : Option Addr) (len cap : Nat) (zs : List Int) (W : World) (h : IsRow .u8 W a len cap zs) :
    Calls Try.prog 9 #[.slice a len cap] W (CmdDrawPost W) := by
  have HI := Lib.hid h
  have HV := Lib.hid (fun W h => drawCmdValid_c a len cap zs W h)
  clear h
  go_enter Try.func9, Try.ntmps9
  go_wp2_with fail
  refine (HV.out _ (HI.out.alloc _)).mono ?_; rintro e W1 ⟨⟨p, fk, fv, tk, tv⟩, rfl, hp, hB⟩
  have T1 := Lib.hid ((five_new W _ _ _ _ _ _).below hB)
  have B1 := Lib.hid (below_next (below_box W _) hB)
  have HP := Lib.hid hp
  clear hB hp
  obtain ⟨t0, t1, t2, t3, t4, f0, f1, f2, f3, f4, -⟩ := T1.out
  unfold cmdV
  go_wp2
  exact bodyPost_ret (cmd_results _ rfl _ W.heap.size ⟨p, fk, fv, tk, tv⟩ _ rfl T1.out.setAll) rfl ⟨⟨p, fk, fv, tk, tv⟩, rfl, HP.out, below_set5 B1.out (Nat.le_refl _)⟩

theorem cmdBytes_range (c : Cmd) : ∀ z ∈ cmdBytes c, (0 : Int) ≤ z ∧ z ≤ 255 := by
  intro z hz
  cases h : validC c with
  | true => exact bodyOk_byte (cmdBytes_body h) hz
  | false => rw [cmdBytes_bad h] at hz; cases hz

set_option maxHeartbeats 1000000 in
set_option maxRecDepth 100000 in
theorem drawCommandFrom_c (a : Option Addr) (len cap : Nat) (zs : List Int) (W : World) (h : IsRow .u8 W a len cap zs) :
    Calls Try.prog 14 #[.slice a len cap] W (IntsPost 13 W) := by
  have HO := Lib.hid (l6Open_c a len cap zs W h)
  have HT := Lib.hid (fun W1 hR => l91Tree_c (W.heap.size + 1) W.heap.size 0 8 (by omega) (by omega) W1 (by omega) hR)
  clear h
  go_enter Try.func14, Try.ntmps14
  go_wp2_with fail
  refine HO.out.mono ?_; rintro e W1 ⟨rfl, hR, hB⟩
  have HB1 := Lib.hid hB
  have HS1 := Lib.hid (show W.heap.size < W1.heap.size from hR.lt)
  go_wp2_with fail
  refine (HT.out _ hR).mono ?_; rintro e W2 ⟨sl, ns, q, rfl, hown, -, hl, hs, hq, hR2, hg⟩
  have HG2 := Lib.hid hg
  have HC := Lib.hid (l91Command_c (W.heap.size + 1) W.heap.size q W1.heap.size sl ns (by omega) hs HS1.out W2 hown (by omega) hR2)
  have HQ := Lib.hid (show q ≤ 1000 by omega)
  clear hown hl hs hg hR hq hR2 hB
  go_wp2_with fail
  refine HC.out.mono ?_; rintro e W3 ⟨c, q3, rfl, hp, hq3, hR3, hg3⟩
  have HBY := Lib.hid (specCmdBytes_c c (by omega) W3)
  have HG3 := Lib.hid (grownBy_trans HG2.out hg3)
  have HQ3 := Lib.hid (show q3 ≤ 2000 by have := HQ.out; omega)
  have HR3 := Lib.hid hR3
  clear hp hq3 hR3 hg3 HC
  go_wp2_with fail
  refine HBY.out.mono ?_; rintro e W4 ⟨⟨s4, rfl, ho4⟩, hb4⟩
  have B4 := Lib.hid (below_next (below_of_reader HB1.out HG3.out) hb4)
  have HD := Lib.hid (l91Damage_c (W.heap.size + 1) W.heap.size q3 W.heap.size W3.heap.size s4 (cmdBytes c) W W4 (by have := HQ3.out; omega) (HR3.out.keep hb4) (Nat.le_refl _) (by have := HG3.out.size; have := HS1.out; omega) hb4.size B4.out ho4 (by have := cmdBytes_le c; omega))
  have HS3 := Lib.hid (show W.heap.size ≤ W3.heap.size by have := HG3.out.size; have := HS1.out; omega)
  clear ho4 hb4 HBY
  go_wp2_with fail
  refine HD.out.mono ?_; rintro e W5 ⟨s5, zs5, rfl, ho5, hl5, hz5, hb5⟩
  have HX := Lib.hid (show IntsPost 13 W (.returned s5) W5 from ⟨s5, zs5, rfl, own_mono1 ho5 HS3.out, by have := cmdBytes_le c; omega, fun z hz => (hz5 z hz).elim (fun h => by have := cmdBytes_range c z h; omega) id, hb5⟩)
  clear ho5 hl5 hz5 hb5 HD
  go_wp2
  go_ret
  exact HX.out

set_option maxHeartbeats 1000000 in
theorem drawLogBytes_c (a : Option Addr) (len cap : Nat) (zs : List Int) (W : World) (h : IsRow .u8 W a len cap zs) :
    Calls Try.prog 17 #[.slice a len cap] W (LogsPost W) := by
  have HV := Lib.hid (drawLogValid_c a len cap zs W h)
  clear h
  go_enter Try.func17, Try.ntmps17
  go_wp2_with fail
  refine HV.out.mono ?_; rintro e W1 hp
  have HX := Lib.hid hp
  obtain ⟨sl, cs, rfl, hr⟩ := hp
  clear hr
  go_wp2
  go_ret
  exact HX.out

end Go.Proofs.Ytoipbocbgadjbaa

/-
  WALKS: the program's cursor.frame.
-/
namespace Go.Proofs.Ytoipbocbgadjbaa
open Go.RowKit
set_option linter.unusedVariables false

/-- What a look at the next frame leaves. -/
def FramePost (a : Option Addr) (len cap : Nat) (zs : List Int) (B p : Nat) (W : World) (e : Ending) (w' : World) : Prop :=
  (scanL (zs.drop p) = ([], 0) ∧ e = .returned (.tuple #[.slice none 0 0, .bool false]) ∧ Below W.heap.size W w') ∨
    ∃ (m : Nat) (sl : Value), zs[p]? = some (m : Int) ∧ headOk (m : Int) (zs.drop (p + 1)) = true ∧ p + m + 2 ≤ len ∧ e = .returned (.tuple #[sl, .bool true]) ∧
      w'.ownsRow W.heap.size 3 1 sl ((zs.drop (p + 1)).take m).length (intsV ((zs.drop (p + 1)).take m)) ∧ CurAt w' B a len cap zs (p + m + 2) ∧ W.grownBy w' (some B)

theorem bodySum_nil : bodySum [] = -1 := rfl

/-- The sum's sign tells whether it is a body. -/
theorem bodySum_neg {zs : List Int} (h : bodySum zs < 0) : bodyOk zs = false := by
  rw [Bool.eq_false_iff]
  intro hc
  rw [bodySum_ok hc] at h
  have := sumB_range zs
  omega
theorem bodySum_pos {zs : List Int} (h : 0 ≤ bodySum zs) : bodyOk zs = true := by
  cases hc : bodyOk zs with
  | true => rfl
  | false => rw [bodySum_bad hc] at h; omega

theorem fr_below {W W1 W2 : World} (h : Below W.heap.size W W1) (hg : W1.grownBy W2 (some W.heap.size)) : Below W.heap.size W W2 :=
  h.grown hg h.size (fun k e => by cases e; exact Nat.le_refl _)

theorem ints_none (W : World) : IntsAt W none 0 [] := ⟨rfl, .inl rfl⟩

theorem headOk_part {zs : List Int} {p m : Nat} (hlen : p + 1 + m ≤ zs.length) : headOk (m : Int) (zs.drop (p + 1)) = (bodyOk ((zs.drop (p + 1)).take m) && decide (zs[p + 1 + m]? = some (sumB ((zs.drop (p + 1)).take m)))) := by
  have e1 : (m : Int).toNat = m := by omega
  have e2 : (zs.drop (p + 1))[m]? = zs[p + 1 + m]? := by rw [List.getElem?_drop]
  have hbl : ((zs.drop (p + 1)).take m).length = m := by rw [List.length_take, List.length_drop]; omega
  generalize hb : (zs.drop (p + 1)).take m = b at hbl ⊢
  rw [Bool.eq_iff_iff, headOk_iff]
  simp only [e1, e2, hb, Bool.and_eq_true, decide_eq_true_eq, List.length_drop]
  constructor
  · rintro ⟨_, _, h3, h4⟩
    exact ⟨h3, h4⟩
  · rintro ⟨h3, h4⟩
    have := bodyOk_len h3
    have := (List.getElem?_eq_some_iff.1 h4).1
    exact ⟨by omega, by omega, h3, h4⟩

end Go.Proofs.Ytoipbocbgadjbaa

/-
  WALKS: the program's FramesScan.
-/
namespace Go.Proofs.Ytoipbocbgadjbaa
open Go.RowKit
set_option linter.unusedVariables false

theorem own_pass {W W' : World} {D : Nat} {e : TypeId} {size n : Nat} {v : Value} {xs : List Value} (h : W.ownsRow (D + 1) e size v n xs) (hg : W.grownBy W' (some D)) : W'.ownsRow (D + 1) e size v n xs := by
  refine h.kept hg ?_
  cases hv : v.ownBlock with
  | none => exact .inl rfl
  | some k => right; intro e; cases e; have := (h.lt _ hv).1; omega

theorem Inner.pass {W W' : World} {D : Nat} {vs : List Value} {bs : List (List Int)} (h : Inner W (D + 1) vs bs) (hg : W.grownBy W' (some D)) : Inner W' (D + 1) vs bs :=
  ⟨h.1, fun i z v hz hv => own_pass (h.2.1 i z v hz hv) hg, h.2.2⟩

theorem Inner.lower {W : World} {b c : Nat} {vs : List Value} {bs : List (List Int)} (h : Inner W c vs bs) (hbc : b ≤ c) : Inner W b vs bs :=
  ⟨h.1, fun i z v hz hv => own_mono1 (h.2.1 i z v hz hv) hbc, h.2.2⟩

theorem CurAt.pass {W W' : World} {D : Nat} {a : Option Addr} {len cap p : Nat} {zs : List Int} {row : Option Nat} (h : CurAt W D a len cap zs p) (hg : W.grownBy W' row) (hr : some D ≠ row) (hI : IntsAt W' a len zs) : CurAt W' D a len cap zs p :=
  have hb := hg.block D h.lt hr
  ⟨hg.cell h.c0 hr, hg.cell h.c1 hr, (World.frozen?_of_block (a := ⟨D, 0, none⟩) hb).trans h.f0, (World.frozen?_of_block (a := ⟨D, 1, none⟩) hb).trans h.f1, h.le, hI, h.far⟩

def IScanRel (a : Option Addr) (len cap : Nat) (zs : List Int) (W : World) (o : Value) (wr : World) : Prop :=
  ∃ (n : Nat) (acc : List (List Int)) (vs : List Value), Hid (CurAt wr W.heap.size a len cap zs n) ∧ Hid (acc.length ≤ n) ∧ Hid (scanL zs = (acc ++ (scanL (zs.drop n)).1, n + (scanL (zs.drop n)).2)) ∧
    wr.ownsRow (W.heap.size + 1) 28 1 o acc.length vs ∧ Hid (Inner wr (W.heap.size + 1) vs acc) ∧ Hid (Below W.heap.size W wr)

def placeOf (W : World) (D : Nat) : Nat := (intOf ((W.cell? ⟨D, 1, none⟩).getD undef)).toNat

theorem CurAt.place {W : World} {D : Nat} {a : Option Addr} {len cap p : Nat} {zs : List Int} (h : CurAt W D a len cap zs p) : placeOf W D = p := by
  unfold placeOf
  rw [h.c1]
  simp [intOf]

end Go.Proofs.Ytoipbocbgadjbaa

/-
  What the laws of frames use: the posts of the contracts, opened.
-/
namespace Go.Proofs.Ytoipbocbgadjbaa
open Go.RowKit
set_option linter.unusedVariables false

theorem own_caps {W : World} {base n size : Nat} {e : TypeId} {v : Value} {xs : List Value} (h : W.ownsRow base e size v n xs) : ∃ a c, v = .slice a n c ∧ n ≤ c ∧ c ≤ maxLen := by
  rcases h.2 with ⟨rfl, rfl⟩ | ⟨g, cap, cur, rfl, _, _, h4, h5, _⟩
  · exact ⟨none, 0, rfl, Nat.le_refl _, Nat.zero_le _⟩
  · exact ⟨_, _, rfl, h4, h5⟩

theorem OwnsInts.at {base : Nat} {zs : List Int} {e : Ending} {w' : World} (h : OwnsInts base zs e w') : ∃ a c, e = .returned (.slice a zs.length c) ∧ IntsAt w' a zs.length zs ∧ zs.length ≤ c ∧ c ≤ maxLen := by
  obtain ⟨sl, rfl, ho⟩ := h
  obtain ⟨a, c, rfl, hi⟩ := ints_of_own ho
  obtain ⟨a', c', he, h1, h2⟩ := own_caps ho
  cases he
  exact ⟨a, c, rfl, hi, h1, h2⟩

theorem IntsPost.at {m : Nat} {W w' : World} {e : Ending} (h : IntsPost m W e w') : ∃ a c zs, e = .returned (.slice a zs.length c) ∧ IntsAt w' a zs.length zs ∧ zs.length ≤ m ∧ zs.length ≤ c ∧ c ≤ maxLen ∧ Below W.heap.size W w' := by
  obtain ⟨sl, zs, rfl, ho, hl, _, hb⟩ := h
  obtain ⟨a, c, he, hi, h1, h2⟩ := OwnsInts.at ⟨sl, rfl, ho⟩
  exact ⟨a, c, zs, he, hi, hl, h1, h2, hb⟩

theorem TabPost.at {W w' : World} {e : Ending} (h : TabPost W e w') : ∃ a c bs, e = .returned (.slice a bs.length c) ∧ TabAt w' a bs.length bs ∧ bs.length ≤ 41 ∧ ShortT 17 bs ∧ bs.length ≤ c ∧ c ≤ maxLen ∧ Below W.heap.size W w' := by
  obtain ⟨sl, vs, bs, rfl, ho, hi, hl, hs, hb⟩ := h
  obtain ⟨a, c, rfl, ht⟩ := tab_of_own ho hi
  obtain ⟨a', c', he, h1, h2⟩ := own_caps ho
  cases he
  exact ⟨a, c, bs, rfl, ht, hl, hs, h1, h2, hb⟩

theorem FPost.at {r : Option (List Int)} {W w' : World} {e : Ending} (h : FPost r W e w') :
    ∃ a c out b, e = .returned (.tuple #[.slice a out.length c, .bool b]) ∧ ((b = true ∧ r = some out) ∨ (b = false ∧ r = none ∧ out = [])) ∧ IntsAt w' a out.length out ∧ out.length ≤ c ∧ c ≤ maxLen ∧ Below W.heap.size W w' := by
  obtain ⟨sl, out, b, rfl, hr, ho, hb⟩ := h
  obtain ⟨a, c, he, hi, h1, h2⟩ := OwnsInts.at ⟨sl, rfl, ho⟩
  cases he
  exact ⟨a, c, out, b, rfl, hr, hi, h1, h2, hb⟩

theorem ScanPost.at {r : List (List Int) × Nat} {W w' : World} {e : Ending} (h : ScanPost r W e w') :
    ∃ a c, e = .returned (.tuple #[.slice a r.1.length c, .int .i64 r.2]) ∧ TabAt w' a r.1.length r.1 ∧ r.1.length ≤ c ∧ c ≤ maxLen ∧ Below W.heap.size W w' := by
  obtain ⟨sl, vs, rfl, ho, hi, hb⟩ := h
  obtain ⟨a, c, rfl, ht⟩ := tab_of_own ho hi
  obtain ⟨a', c', he, h1, h2⟩ := own_caps ho
  cases he
  exact ⟨a, c, rfl, ht, h1, h2, hb⟩

theorem rem_nat (n m : Nat) (hm : 0 < m) : ((n : Int)).tmod m = ((n % m : Nat) : Int) := by
  rw [Int.tmod_eq_emod_of_nonneg (by omega)]; simp

theorem ints_take {W : World} {a : Option Addr} {len k : Nat} {zs : List Int} (h : IntsAt W a len zs) (hk : k ≤ len) : IntsAt W a k (zs.take k) := by
  obtain ⟨h1, h2⟩ := h
  refine ⟨by rw [List.length_take]; omega, ?_⟩
  rcases h2 with h0 | ⟨b, off, ha, hc⟩
  · exact .inl (by omega)
  · refine .inr ⟨b, off, ha, fun i n hn => hc i n ?_⟩
    rw [List.getElem?_take] at hn
    split at hn
    · exact hn
    · cases hn

theorem tab_take {W : World} {a : Option Addr} {len k : Nat} {bs : List (List Int)} (h : TabAt W a len bs) (hk : k ≤ len) : TabAt W a k (bs.take k) := by
  obtain ⟨h1, h2⟩ := h
  refine ⟨by rw [List.length_take]; omega, ?_⟩
  rcases h2 with h0 | ⟨b, off, ha, hc⟩
  · exact .inl (by omega)
  · refine .inr ⟨b, off, ha, fun i n hn => hc i n ?_⟩
    rw [List.getElem?_take] at hn
    split at hn
    · exact hn
    · cases hn

theorem tab_drop {W : World} {a : Option Addr} {len k : Nat} {bs : List (List Int)} (h : TabAt W a len bs) (hk : k ≤ len) : TabAt W (a.map fun x => x.add k) (len - k) (bs.drop k) := by
  obtain ⟨h1, h2⟩ := h
  refine ⟨by rw [List.length_drop]; omega, ?_⟩
  rcases h2 with h0 | ⟨b, off, ha, hc⟩
  · exact .inl (by omega)
  · refine .inr ⟨b, off + k, by rw [ha, Option.map_some, add_off], fun i n hn => ?_⟩
    rw [List.getElem?_drop] at hn
    rw [show off + k + i = off + (k + i) by omega]
    exact hc _ n hn

theorem ShortT.take {m : Nat} {bs : List (List Int)} (h : ShortT m bs) (k : Nat) : ShortT m (bs.take k) := fun b hb => h b (List.mem_of_mem_take hb)
theorem ShortT.drop {m : Nat} {bs : List (List Int)} (h : ShortT m bs) (k : Nat) : ShortT m (bs.drop k) := fun b hb => h b (List.mem_of_mem_drop hb)
theorem ShortT.mono {m n : Nat} {bs : List (List Int)} (h : ShortT m bs) (hmn : m ≤ n) : ShortT n bs := fun b hb => Nat.le_trans (h b hb) hmn
theorem shortT_ok {bs : List (List Int)} (h : bs.all bodyOk = true) : ShortT 16 bs := fun b hb => (bodyOk_len (List.all_eq_true.1 h b hb)).2

end Go.Proofs.Ytoipbocbgadjbaa

/-
  What the laws of frames use (goes on from Gk): two answers of one question; parts of tables.
-/
namespace Go.Proofs.Ytoipbocbgadjbaa
open Go.RowKit
set_option linter.unusedVariables false

theorem fpost_same {r : Option (List Int)} {out out' : List Int} {b b' : Bool} (h : (b = true ∧ r = some out) ∨ (b = false ∧ r = none ∧ out = [])) (h' : (b' = true ∧ r = some out') ∨ (b' = false ∧ r = none ∧ out' = [])) : out' = out ∧ b' = b := by
  rcases h with ⟨rfl, e⟩ | ⟨rfl, e, rfl⟩ <;> rcases h' with ⟨rfl, e'⟩ | ⟨rfl, e', rfl⟩
  · rw [e] at e'; exact ⟨(Option.some.inj e').symm, rfl⟩
  · rw [e] at e'; cases e'
  · rw [e] at e'; cases e'
  · exact ⟨rfl, rfl⟩

theorem fpost_len {bs : List (List Int)} {o : List Int} {b : Bool} (h : (b = true ∧ framesOf bs = some o) ∨ (b = false ∧ framesOf bs = none ∧ o = [])) : o.length ≤ 720 := by
  rcases h with ⟨_, e⟩ | ⟨_, _, rfl⟩
  · obtain ⟨h1, h2, rfl⟩ := framesOf_some e
    have := framesL_len h1
    omega
  · simp

end Go.Proofs.Ytoipbocbgadjbaa

/-
  What the laws of frames use (goes on from Gl): append of a list of numbers to a list of the call's own, wherever the first lies, nil or not.
-/
namespace Go.Proofs.Ytoipbocbgadjbaa
open Go.RowKit
set_option linter.unusedVariables false

theorem ints_nil_cap {base : Nat} {e : TypeId} {W : World} {n c : Nat} {a : Option Addr} {xs : List Value} (h : W.ownsRow base e 1 (.slice a n c) n xs) : a = none → c = 0 := by
  rintro rfl
  rcases h.2 with ⟨h, _⟩ | ⟨g, cap, cur, h, _⟩
  · cases h; rfl
  · cases h

theorem FPost.at2 {r : Option (List Int)} {W w' : World} {e : Ending} (h : FPost r W e w') :
    ∃ a c out b, e = .returned (.tuple #[.slice a out.length c, .bool b]) ∧ ((b = true ∧ r = some out) ∨ (b = false ∧ r = none ∧ out = [])) ∧ IntsAt w' a out.length out ∧ (a = none → c = 0) ∧ Below W.heap.size W w' := by
  obtain ⟨sl, out, b, rfl, hr, ho, hb⟩ := h
  obtain ⟨a, c, rfl, hi⟩ := ints_of_own ho
  exact ⟨a, c, out, b, rfl, hr, hi, ints_nil_cap ho, hb⟩

theorem OwnsInts.at2 {base : Nat} {zs : List Int} {e : Ending} {w' : World} (h : OwnsInts base zs e w') : ∃ a c, e = .returned (.slice a zs.length c) ∧ IntsAt w' a zs.length zs ∧ (a = none → c = 0) := by
  obtain ⟨sl, rfl, ho⟩ := h
  obtain ⟨a, c, rfl, hi⟩ := ints_of_own ho
  exact ⟨a, c, rfl, hi, ints_nil_cap ho⟩

theorem fpost_yes {bs : List (List Int)} {o out : List Int} {b : Bool} (hs : framesOf bs = some out) (h : (b = true ∧ framesOf bs = some o) ∨ (b = false ∧ framesOf bs = none ∧ o = [])) : b = true ∧ o = out := by
  rcases h with ⟨h, e⟩ | ⟨_, e, _⟩
  · rw [hs] at e; exact ⟨h, (Option.some.inj e).symm⟩
  · rw [hs] at e; cases e

end Go.Proofs.Ytoipbocbgadjbaa

/-
  WALKS: logs as bytes: the program's and the model's LogBytes.
-/
namespace Go.Proofs.Ytoipbocbgadjbaa
open Go.RowKit
set_option linter.unusedVariables false

theorem bytes_short (cs : List Cmd) : ShortT 2097152 (cs.map cmdBytes) := by
  intro b hb
  obtain ⟨c, _, rfl⟩ := List.mem_map.1 hb
  have := cmdBytes_le c
  omega
theorem framesOf_cmds {cs : List Cmd} (h : validL cs = true) : framesOf (cs.map cmdBytes) = logBytes cs := by
  obtain ⟨h1, h2⟩ := (validL_iff cs).1 h
  unfold framesOf
  rw [if_pos (by rw [bodies_ok h1, List.length_map]; simp; omega), logBytes_yes h]

/-- Between two rounds of the program's LogBytes. -/
def LogRelI (cs : List Cmd) (W : World) (o i : Value) (wr : World) : Prop :=
  ∃ (n : Nat) (vs : List Value), i = .int .i64 n ∧ n ≤ cs.length ∧ wr.ownsRow W.heap.size 28 1 o n vs ∧ Hid (Inner wr W.heap.size vs ((cs.take n).map cmdBytes)) ∧ Hid (Below W.heap.size W wr)

theorem take_map {cs : List Cmd} {n : Nat} {c : Cmd} (h : cs[n]? = some c) : (cs.take (n + 1)).map cmdBytes = (cs.take n).map cmdBytes ++ [cmdBytes c] := by
  rw [List.take_add_one, h]
  simp

set_option maxHeartbeats 4000000 in
set_option maxRecDepth 100000 in
theorem implLogBytes_c (a : Option Addr) (len cap : Nat) (cs : List Cmd) (hl : len ≤ 2097152) (hs : ShortC 2097152 cs) (W : World) (hN : CmdsAt W a len cs) :
    Calls Try.prog 18 #[.slice a len cap] W (FPost (logBytes cs) W) := by
  obtain ⟨j0, ji, jz0, jz1, jz2⟩ := info_parts infoInts
  obtain ⟨vl, hvl⟩ : ∃ v, validL cs = v := ⟨_, rfl⟩
  have HV := Lib.hid (show Calls Try.prog 43 #[.slice a len cap] W (BoolPost vl W) by rw [← hvl]; exact implLogValid_c a len cap cs hl hs W hN)
  have HN := Lib.hid hN
  have HE := Lib.hid hN.1
  have HS := Lib.hid hs
  cases vl with
  | false =>
    have HR := Lib.hid (logBytes_no hvl)
    clear hN hs hvl
    go_enter Try.func18, Try.ntmps18
    go_wp2_with fail
    refine HV.out.mono ?_
    rintro e W1 ⟨rfl, hb1⟩
    have B1 := Lib.hid hb1
    clear hb1
    go_wp2
    go_ret2
    exact ⟨_, [], false, rfl, .inr ⟨rfl, HR.out, rfl⟩, World.ownsRow_nil _ _ _ _, B1.out⟩
  | true =>
    have HR := Lib.hid (framesOf_cmds hvl)
    have HL20 := Lib.hid (((validL_iff cs).1 hvl).2)
    have HCB := Lib.hid (fun (c : Cmd) (h : c.p.size ≤ 2097152) W => implCmdBytes_c c h W)
    have HFO := Lib.hid (fun x m c (bs : List (List Int)) (h1 : m ≤ 2097152) (h2 : ShortT 2097152 bs) W (h : TabAt W x m bs) => implFramesOf_c x m c bs h1 h2 W h)
    have hl20 : (len : Int) ≤ 20 := by have := HE.out; have := HL20.out; omega
    clear hN hs hvl
    go_enter Try.func18, Try.ntmps18
    go_wp2_with fail
    refine HV.out.mono ?_
    rintro e W1 ⟨rfl, hb1⟩
    have B1 := Lib.hid hb1
    clear hb1
    go_wp2_with fail
    go_loopw [4, 12] (fun o i wr => LogRelI cs W o i wr) (fun _ i _ => cs.length - (intOf i).toNat)
    case atStart => exact ⟨0, [], rfl, Nat.zero_le _, World.ownsRow_nil _ _ _ _, ⟨rfl, fun i z v hz => by simp at hz, List.Pairwise.nil⟩, B1⟩
    case round =>
      obtain ⟨n, vs, rfl, hn, hrow, HIN, HB⟩ := hrel
      by_cases hlt : n < cs.length
      · have hlt' : (n : Int) < len := by have := HE.out; omega
        have hw1 : IntKind.i64.wrap ((n : Int) + 1) = (n : Int) + 1 := IntWalk.i64_in _ (by omega)
        obtain ⟨b, off, c, rfl, hat, c0, c1, c2, c3, c4⟩ := (HN.out.keep HB.out).node (i := n) (by have := HE.out; omega)
        have HAT := Lib.hid hat
        have HCS := Lib.hid (HS.out.at hat)
        have HO := Lib.hid hrow
        have HLT := Lib.hid hlt
        obtain ⟨p, fk, fv, tk, tv⟩ := c
        simp only at c0 c1 c2 c3 c4 HCS
        have HC5 := Lib.hid (HCB.out ⟨p, fk, fv, tk, tv⟩ HCS.out)
        unfold cmdV at HC5
        simp only at HC5
        have X5 := Lib.hid (five_new wr (.string p) (.int .i64 fk) (.int .i64 fv) (.int .i64 tk) (.int .i64 tv) 26)
        have BX := Lib.hid (below_box wr (.cells #[.string p, .int .i64 fk, .int .i64 fv, .int .i64 tk, .int .i64 tv] 26))
        clear hn hlt hat hrow
        go_wp2_with fail
        refine (HC5.out _).mono ?_
        rintro e W5 ⟨⟨s5, rfl, ho5⟩, hb5⟩
        obtain ⟨a3, c3, rfl, -⟩ := ints_of_own ho5
        have HB5 := Lib.hid (below_next (below_next HB.out BX.out) hb5)
        have HO5 := Lib.hid (own_below1 (HO.out.alloc _) hb5)
        have HI5 := Lib.hid ((HIN.out.below BX.out).below hb5)
        have HBS := Lib.hid (show W.heap.size ≤ wr.heap.size from HB.out.size)
        have HVD := Lib.hid (show ∀ u ∈ vs, ∀ k, u.ownBlock = some k → (Value.slice a3 (cmdBytes ⟨p, fk, fv, tk, tv⟩).length c3).ownBlock ≠ some k from fun u hu k e1 e2 => by
          have h1 := HIN.out.lt u hu k e1
          have h2 := (ho5.lt k e2).1
          rw [World.size_alloc] at h2
          omega)
        have HO3 := Lib.hid (own_mono1 ho5 (Nat.le_trans HBS.out (by rw [World.size_alloc]; exact Nat.le_succ _)))
        have hlt6 := HO5.out.lt
        have hn20 : n + 1 ≤ 20 := by have := HL20.out; have := HLT.out; omega
        clear ho5 hb5
        go_wp2_with (at_builtin; refine wpList_append_own _ rfl _ _ 67 rfl W.heap.size 28 j0 (.slice none 0 0) 1 24 Try.underlying67 ji jz0 jz1 jz2 rfl (by decide) _ _ _ rfl (HO5.out.alloc _) ⟨W5.heap.size, 0, none⟩ 1 1 [.slice a3 _ c3] rfl rfl (cell_int_new _ _ _) (fun y hy => by simp at hy; subst hy; rfl) (by unfold maxLen; omega) (by omega) (by have := HB5.out.size; simp; omega) ?_; intro v7 w7 ho7 hg7 hn7)
        have B7 : Below W.heap.size W w7 := (HB5.out.alloc HB5.out.size _).grown hg7 (by have := HB5.out.size; simp; omega) (fun g e => (hlt6 g e).1)
        have hI7 := ((HI5.out.below (below_box _ _)).grown (HO5.out.alloc _) hg7)
        have hO37 := own_farT (own_below1 HO3.out (below_box W5 _)) hg7 (own_types HO3.out HO5.out (by decide))
        go_roundw
        case rel => exact ⟨n + 1, vs ++ [.slice a3 _ c3], by go_num, HLT.out, ho7, Lib.hid (by rw [take_map HAT.out]; exact hI7.push hO37 HVD.out), Lib.hid B7⟩
        case measure => have := HLT.out; simp [intOf]; omega
      · have hnl : n = cs.length := by omega
        have hge : ¬ (n : Int) < len := by have := HE.out; omega
        have HI : Hid (Inner wr W.heap.size vs (cs.map cmdBytes)) := Lib.hid (by have := HIN.out; rw [hnl, List.take_of_length_le (Nat.le_refl _)] at this; exact this)
        rw [hnl] at hrow
        obtain ⟨ax, cx, rfl, hT⟩ := tab_of_own (bs := cs.map cmdBytes) (by rw [List.length_map]; exact hrow) HI.out
        obtain ⟨m, hm⟩ : ∃ m, (cs.map cmdBytes).length = m := ⟨_, rfl⟩
        rw [hm] at hT ⊢
        have HF := Lib.hid (HFO.out ax m cx (cs.map cmdBytes) (by rw [← hm, List.length_map]; have := HL20.out; omega) (bytes_short cs) wr hT)
        rw [HR.out] at HF
        clear hm
        clear hn hlt hrow HIN hT HI
        go_wp2_with fail
        refine HF.out.mono ?_
        rintro e W6 ⟨s6, out, bb, rfl, hr6, ho6, hb6⟩
        have HX := Lib.hid (show FPost (logBytes cs) W (.returned (.tuple #[s6, .bool bb])) W6 from ⟨s6, out, bb, rfl, hr6, own_mono1 ho6 HB.out.size, below_next HB.out hb6⟩)
        clear hr6 ho6 hb6 HF
        go_wp2
        go_ret2
        exact HX.out

theorem logBytes_next {cs : List Cmd} {n : Nat} {c : Cmd} (h : cs[n]? = some c) : framesL ((cs.take (n + 1)).map cmdBytes) = framesL ((cs.take n).map cmdBytes) ++ frame (cmdBytes c) := by
  rw [take_map h, framesL_append, framesL_one]

/-- Between two rounds of the model's LogBytes. -/
def LogRelS (cs : List Cmd) (W : World) (o i : Value) (wr : World) : Prop :=
  ∃ n : Nat, i = .int .i64 n ∧ n ≤ cs.length ∧ wr.ownsRow W.heap.size 3 1 o (framesL ((cs.take n).map cmdBytes)).length (intsV (framesL ((cs.take n).map cmdBytes))) ∧ Hid (Below W.heap.size W wr)

set_option maxHeartbeats 4000000 in
set_option maxRecDepth 100000 in
theorem specLogBytes_c (a : Option Addr) (len cap : Nat) (cs : List Cmd) (hl : len ≤ 2097152) (hs : ShortC 2097152 cs) (W : World) (hN : CmdsAt W a len cs) :
    Calls Try.prog 19 #[.slice a len cap] W (FPost (logBytes cs) W) := by
  obtain ⟨i0, hi, hz0, hz1, hz2⟩ := info_parts infoInt
  obtain ⟨vl, hvl⟩ : ∃ v, validL cs = v := ⟨_, rfl⟩
  have HL0 := Lib.hid (World.ownsRow_lit (e := 3) (size := 1) W #[] 0 (Nat.le_refl _) (by simp [maxLen]) rfl)
  have BL0 := Lib.hid (below_box W (.cells #[] 3))
  have HV := Lib.hid (show Calls Try.prog 45 #[.slice a len cap] (W.alloc (.cells #[] 3)) (BoolPost vl (W.alloc (.cells #[] 3))) by rw [← hvl]; exact specLogValid_c a len cap cs hl hs _ (hN.keep BL0.out))
  have HN := Lib.hid hN
  have HE := Lib.hid hN.1
  have HS := Lib.hid hs
  cases vl with
  | false =>
    have HR := Lib.hid (logBytes_no hvl)
    clear hN hs hvl
    go_enter Try.func19, Try.ntmps19
    go_wp2_with fail
    refine HV.out.mono ?_
    rintro e W1 ⟨rfl, hb1⟩
    have B1 := Lib.hid (below_next BL0.out hb1)
    have HO1 := Lib.hid (own_below1 HL0.out hb1)
    clear hb1
    go_wp2
    go_ret2
    exact ⟨_, [], false, rfl, .inr ⟨rfl, HR.out, rfl⟩, HO1.out, B1.out⟩
  | true =>
    have HR := Lib.hid (logBytes_yes hvl)
    have HVV := Lib.hid ((validL_iff cs).1 hvl).1
    have HL20 := Lib.hid (((validL_iff cs).1 hvl).2)
    have HFL := Lib.hid (frames_len hvl)
    have HCB := Lib.hid (fun (c : Cmd) (h : c.p.size ≤ 2097152) W => specCmdBytes_c c h W)
    have HFO := Lib.hid (fun x m c (zs : List Int) (h1 : m ≤ 2097152) W (h : IntsAt W x m zs) => specFrameOf_c x m c zs h1 W h)
    have hl20 : (len : Int) ≤ 20 := by have := HE.out; have := HL20.out; omega
    clear hN hs hvl
    go_enter Try.func19, Try.ntmps19
    go_wp2_with fail
    refine HV.out.mono ?_
    rintro e W1 ⟨rfl, hb1⟩
    have B1 := Lib.hid (below_next BL0.out hb1)
    have HO1 := Lib.hid (own_below1 HL0.out hb1)
    clear hb1
    go_wp2_with fail
    go_loopw [4, 5] (fun o i wr => LogRelS cs W o i wr) (fun _ i _ => cs.length - (intOf i).toNat)
    case atStart => exact ⟨0, rfl, Nat.zero_le _, HO1.out, B1⟩
    case round =>
      obtain ⟨n, rfl, hn, hrow, HB⟩ := hrel
      by_cases hlt : n < cs.length
      · have hlt' : (n : Int) < len := by have := HE.out; omega
        have hw1 : IntKind.i64.wrap ((n : Int) + 1) = (n : Int) + 1 := IntWalk.i64_in _ (by omega)
        obtain ⟨b, off, c, rfl, hat, c0, c1, c2, c3, c4⟩ := (HN.out.keep HB.out).node (i := n) (by have := HE.out; omega)
        have HAT := Lib.hid hat
        have HCS := Lib.hid (HS.out.at hat)
        have HVC := Lib.hid (HVV.out c (List.mem_of_getElem? hat))
        have HO := Lib.hid hrow
        have HLT := Lib.hid hlt
        obtain ⟨zb, hzb⟩ : ∃ zb, cmdBytes c = zb := ⟨_, rfl⟩
        have HZB := Lib.hid hzb
        have hzl : zb.length ≤ 12 := by rw [← hzb]; exact cmdBytes_le c
        have HFR := Lib.hid (show frameOf zb = frame zb from by unfold frameOf; rw [if_pos (by rw [← hzb]; exact cmdBytes_body HVC.out)])
        have HC5 := Lib.hid (fun W => show Calls Try.prog 11 #[cmdV c] W (NumsPost zb W) by rw [← hzb]; exact HCB.out c HCS.out W)
        have HNX := Lib.hid (show framesL ((cs.take (n + 1)).map cmdBytes) = framesL ((cs.take n).map cmdBytes) ++ frame zb by rw [logBytes_next hat, hzb])
        have hfl : (framesL ((cs.take n).map cmdBytes)).length + (frame zb).length ≤ 280 := by
          have e := HNX.out
          have h2 : (framesL ((cs.take (n + 1)).map cmdBytes)).length ≤ (framesL (cs.map cmdBytes)).length := by
            have := log_join cs (n + 1)
            rw [this, List.length_append]
            omega
          rw [e, List.length_append] at h2
          have := HFL.out
          omega
        obtain ⟨p, fk, fv, tk, tv⟩ := c
        unfold cmdV at HC5
        simp only at c0 c1 c2 c3 c4 HC5
        clear hn hlt hat hrow hzb
        go_wp2_with fail
        refine (HC5.out _).mono ?_
        rintro e W5 ⟨⟨s5, rfl, ho5⟩, hb5⟩
        obtain ⟨a5, c5, rfl, hi5⟩ := ints_of_own ho5
        have HB5 := Lib.hid (below_next HB.out hb5)
        have HO5 := Lib.hid (own_below1 HO.out hb5)
        have HF5 := Lib.hid (HFO.out a5 zb.length c5 zb (by omega) W5 hi5)
        rw [HFR.out] at HF5
        clear ho5 hi5 hb5
        go_wp2_with fail
        refine HF5.out.mono ?_
        rintro e W6 ⟨h6, hb6⟩
        obtain ⟨a6, c6, rfl, hi6, hn6⟩ := h6.at2
        have HB6 := Lib.hid (below_next HB5.out hb6)
        have HO6 := Lib.hid (own_below1 HO5.out hb6)
        have HI6 := Lib.hid hi6
        have hlt6 := HO6.out.lt
        have HN6 := Lib.hid hn6
        have HLT2 := Lib.hid hfl
        clear h6 hi6 hb6 HF5 hn6 hfl
        go_wp2_with (at_builtin; refine wpList_append_ints (by simp [Region.wanted, go_sem]) _ _ rfl W.heap.size _ (framesL ((cs.take n).map cmdBytes)) rfl HO6.out a6 _ c6 (frame zb) rfl HI6.out HN6.out (by have := HLT2.out; omega) HB6.out.size ?_; intro v7 w7 ho7 hg7)
        have B7 : Below W.heap.size W w7 := HB6.out.grown hg7 HB6.out.size (fun g e => (hlt6 g e).1)
        go_roundw
        case rel => exact ⟨n + 1, by go_num, HLT.out, by rw [HNX.out]; exact ho7, Lib.hid B7⟩
        case measure => have := HLT.out; simp [intOf]; omega
      · have hnl : n = cs.length := by omega
        have hge : ¬ (n : Int) < len := by have := HE.out; omega
        have HO := Lib.hid hrow
        clear hn hlt hrow
        go_wp2
        go_ret2
        refine ⟨_, framesL (cs.map cmdBytes), true, rfl, .inl ⟨rfl, HR.out⟩, ?_, HB.out⟩
        have := HO.out
        rw [hnl, List.take_of_length_le (Nat.le_refl _)] at this
        exact this

end Go.Proofs.Ytoipbocbgadjbaa

/-
  What the laws of scans use (goes on from Gm).
-/
namespace Go.Proofs.Ytoipbocbgadjbaa
open Go.RowKit
set_option linter.unusedVariables false

theorem frames_ge : ∀ (bs : List (List Int)), bs.length ≤ (framesL bs).length
  | [] => Nat.zero_le _
  | b :: bs => by
    have := frames_ge bs
    rw [framesL_cons, List.length_append, frame_length, List.length_cons]
    omega

/-- What a scan finds, all together. -/
theorem scan_facts {zs : List Int} {bs : List (List Int)} {n : Nat} (h : scanL zs = (bs, n)) : bs.all bodyOk = true ∧ framesL bs = zs.take n ∧ n ≤ zs.length ∧ bs.length ≤ n ∧ (framesL bs).length = n := by
  obtain ⟨h1, h2, h3⟩ := scan_sound zs
  rw [h] at h1 h2 h3
  have h4 : (framesL bs).length = n := by
    have := congrArg List.length h2
    rw [List.length_take] at this
    have h3' : n ≤ zs.length := h3
    simp only at this
    omega
  exact ⟨h1, h2, h3, by have := frames_ge bs; omega, h4⟩

theorem frameOf_ok {z : List Int} (h : bodyOk z = true) : frameOf z = frame z := by unfold frameOf; rw [if_pos h]

end Go.Proofs.Ytoipbocbgadjbaa

/-
  WALKS: laws.toIntS, eqIntS, markIntS, heldIntS, szIntS: lists of numbers that come from outside, and what a test writes into them.
-/
namespace Go.Proofs.Ytoipbocbgadjbaa
open Go.RowKit
set_option linter.unusedVariables false

theorem own_casesI {W : World} {base : Nat} {e : TypeId} {size n : Nat} {v : Value} {xs : List Value} (h : W.ownsRow base e size v n xs) : (v = .slice none 0 0 ∧ n = 0) ∨ ∃ g cap, v = .slice (some ⟨g, 0, none⟩) n cap := own_casesT h

theorem below_noneI {W w : World} (h : W.grownBy w none) : Below W.heap.size W w := ⟨h.os, h.tape, h.output, h.size, fun k hk => h.block k hk (by simp)⟩

theorem take_setI {α : Type} (l : List α) (i : Nat) (x : α) (zs : List α) (h : l.length = i) (hz : 1 ≤ zs.length) : (l ++ zs).set i x = (l ++ [x]) ++ zs.drop 1 := by
  match zs, hz with
  | a :: r, _ =>
    rw [List.set_append_right _ _ (by omega), h, Nat.sub_self]
    simp

def ToIRel (ns : List Int) (len : Nat) (W : World) (i : Value) (wr : World) : Prop :=
  ∃ (n : Nat) (zs : List Value), i = .int .i64 n ∧ n ≤ len ∧ zs.length = len - n ∧ wr.ownsRow W.heap.size 3 1 (.slice (some ⟨W.heap.size, 0, none⟩) len len) len (intsV (ns.take n) ++ zs) ∧ Hid (Below W.heap.size W wr)

set_option maxHeartbeats 2000000 in
set_option maxRecDepth 100000 in
theorem toIntS_c (a : Option Addr) (len cap : Nat) (ns : List Int) (hl : len ≤ 2097152) (W : World) (hN : IntsAt W a len ns) :
    Calls Try.prog 25 #[.slice a len cap] W fun e W' => OwnsInts W.heap.size ns e W' ∧ Below W.heap.size W W' := by
  obtain ⟨i0, hi, hz0, hz1, hz2⟩ := info_parts infoInt
  have HN := Lib.hid hN
  have HE := Lib.hid hN.1
  have HL := Lib.hid hl
  clear hN
  go_enter Try.func25, Try.ntmps25
  go_wp2_with (refine wpList_make_full _ rfl _ _ 28 rfl W.heap.size 3 i0 (.int .i64 0) 1 Try.underlying28 hi hz0 hz1 .i64 .i64 _ _ len rfl rfl rfl rfl (by rw [hz2]; omega) (by unfold maxLen; omega) (Nat.le_refl _) ?_; intro w1 hown1 hg1)
  have hb1 := below_noneI hg1
  clear hg1
  simp only [Nat.mul_one] at hown1
  go_loopw [4] (fun i wr => ToIRel ns len W i wr) (fun i _ => len - (intOf i).toNat)
  case atStart =>
    refine ⟨0, _, rfl, by omega, ?_, hown1, hb1⟩
    exact hown1.1.trans (Nat.mul_one len)
  case round =>
    obtain ⟨i, zs, rfl, hi1, hzl, hown, HB⟩ := hrel
    by_cases hlt : i < len
    · obtain ⟨b, off, n, rfl, hn, c0⟩ := (HN.out.keep HB.out).at hlt
      have hlt' : (i : Int) < len := by omega
      have HLT := Lib.hid hlt
      have HNN := Lib.hid hn
      have hz3 : 1 ≤ zs.length := by omega
      have HZ := Lib.hid (And.intro hzl hz3)
      have HO2 := Lib.hid hown
      have hll : (intsV (ns.take i)).length = i := by rw [intsV_length, List.length_take]; have := HE.out; have := HLT.out; omega
      have HLL := Lib.hid hll
      obtain ⟨u0, e0⟩ : ∃ u, wr.cell? ⟨W.heap.size, i, none⟩ = some u := by
        have hx := HZ.out.1
        have hy := HLT.out
        rw [HO2.out.cellAt _ (by omega)]
        exact ⟨_, List.getElem?_eq_getElem (by rw [List.length_append, hll]; omega)⟩
      have y0 := HO2.out.frozenAt i
      clear hi1 hlt hn hzl hz3 hown1 hown hll
      go_wp2
      have HS1 := (HO2.out.stored i (.int .i64 n)).1
      rw [take_setI _ i _ zs HLL.out HZ.out.2] at HS1
      go_roundw
      case rel =>
        refine ⟨i + 1, zs.drop 1, by go_num, by have := HLT.out; omega, by rw [List.length_drop]; have h1 := HZ.out.1; have h2 := HZ.out.2; have h3 := HLT.out; omega, ?_, below_setCell HB.out _ _ (Nat.le_refl _)⟩
        rw [List.take_add_one, HNN.out, intsV_append]; exact HS1
      case measure => have := HLT.out; simp [intOf]; omega
    · have hge : (len : Int) ≤ i := by omega
      have hz0' : zs = [] := List.eq_nil_of_length_eq_zero (by omega)
      subst hz0'
      rw [List.append_nil, List.take_of_length_le (by have := HE.out; omega)] at hown
      clear hi1 hlt
      go_wp2
      go_ret
      exact ⟨⟨_, rfl, by have h := HE.out; rw [h]; exact hown⟩, HB.out⟩

set_option maxHeartbeats 1000000 in
theorem eqIntS_c (a1 a2 : Option Addr) (len c1 c2 : Nat) (zs : List Int) (hl : len ≤ 2097152) (W : World) (h1 : IntsAt W a1 len zs) (h2 : IntsAt W a2 len zs) :
    Calls Try.prog 22 #[.slice a1 len c1, .slice a2 len c2] W (BoolPost true W) := by
  have H1 := Lib.hid h1
  have H2 := Lib.hid h2
  clear h1 h2
  go_enter Try.func22, Try.ntmps22
  go_wp2
  go_loopw [5] (fun i wr => SameRel len W i wr) (fun i _ => len - (intOf i).toNat)
  case atStart => exact ⟨0, rfl, by omega, Below.refl _ _⟩
  case round =>
    obtain ⟨i, rfl, hi, HB⟩ := hrel
    by_cases hlt : i < len
    · obtain ⟨b, off, n, rfl, hn, x0⟩ := (H1.out.keep HB.out).at hlt
      obtain ⟨b', off', n', rfl, hn', y0⟩ := (H2.out.keep HB.out).at hlt
      obtain rfl : n = n' := Option.some.inj (hn.symm.trans hn')
      have hlt' : (i : Int) < len := by omega
      have hi0 : (0 : Int) ≤ i := by omega
      have HLT := Lib.hid hlt
      clear hi hlt hn hn'
      go_wp2
      go_quiet (fail)
      have HB2 := Lib.hid (below_drewN1 HB.out nq)
      clear x0 y0
      go_wp2
      go_roundw
      case rel => exact ⟨i + 1, by go_num, by have := HLT.out; omega, HB2⟩
      case measure => have := HLT.out; simp [intOf]; omega
    · have hge : (len : Int) ≤ i := by omega
      clear hi hlt
      go_wp2
      go_ret
      exact ⟨rfl, HB.out⟩

/-- The numbers that a test writes, from k on. -/
def markI (k n : Nat) : List Int := (List.range n).map (fun i => ((k + i : Nat) : Int))
theorem markI_len (k n : Nat) : (markI k n).length = n := by simp [markI]
theorem markI_get {k n i : Nat} (h : i < n) : (markI k n)[i]? = some ((k + i : Nat) : Int) := by
  unfold markI; rw [List.getElem?_map, List.getElem?_range h]; rfl

def MarkIRel (k0 len base : Nat) (v : Value) (W : World) (kv i : Value) (wr : World) : Prop :=
  ∃ (n : Nat) (zs : List Value), i = .int .i64 n ∧ kv = .int .i64 ((k0 + n : Nat) : Int) ∧ n ≤ len ∧ zs.length = len - n ∧ wr.ownsRow base 3 1 v len (intsV ((markI k0 len).take n) ++ zs) ∧ Hid (W.grownBy wr v.ownBlock)

theorem grown_setI {A B : World} {g : Nat} {n cap : Nat} (h : A.grownBy B (Value.slice (some ⟨g, 0, none⟩) n cap).ownBlock) (i : Nat) (u : Value) : A.grownBy (B.setCell ⟨g, i, none⟩ u) (Value.slice (some ⟨g, 0, none⟩) n cap).ownBlock :=
  grownBy_trans h (grownBy_setCell_at B g i u)

set_option maxHeartbeats 2000000 in
set_option maxRecDepth 100000 in
theorem markIntS_c (v : Value) (base len k0 : Nat) (xs : List Value) (hl : len ≤ 2097152) (hk : k0 ≤ 1099511627776) (W : World) (h : W.ownsRow base 3 1 v len xs) :
    Calls Try.prog 23 #[v, .int .i64 k0] W fun e W' => e = .returned (.int .i64 ((k0 + len : Nat) : Int)) ∧ W.grownBy W' v.ownBlock ∧ W'.ownsRow base 3 1 v len (intsV (markI k0 len)) := by
  have HX := Lib.hid h
  have hxl := h.1
  obtain ⟨a, cap, hv⟩ : ∃ a cap, v = .slice a len cap := by
    rcases own_casesI h with ⟨h1, h2⟩ | ⟨g, cap, h1⟩
    · exact ⟨none, 0, by rw [h1, h2]⟩
    · exact ⟨_, cap, h1⟩
  have hl' : (len : Int) ≤ 2097152 := by omega
  have hk' : (k0 : Int) ≤ 1099511627776 := by omega
  clear h
  subst hv
  go_enter Try.func23, Try.ntmps23
  go_wp2
  go_loopw [1, 5] (fun kv i wr => MarkIRel k0 len base (.slice a len cap) W kv i wr) (fun _ i _ => len - (intOf i).toNat)
  case atStart => exact ⟨0, xs, rfl, rfl, by omega, by rw [hxl]; omega, HX.out, ⟨rfl, rfl, rfl, Nat.le_refl _, fun _ _ _ => rfl⟩⟩
  case round =>
    obtain ⟨i, zs, rfl, rfl, hi, hzl, hown, HG⟩ := hrel
    by_cases hlt : i < len
    · have hlt' : (i : Int) < len := by omega
      have hil : (i : Int) ≤ 2097152 := by omega
      have HLT := Lib.hid hlt
      have HZ := Lib.hid (And.intro hzl (show 1 ≤ zs.length by omega))
      rcases own_casesI hown with ⟨_, h2⟩ | ⟨g, cap', h2⟩
      · omega
      simp at h2
      obtain ⟨rfl, rfl⟩ := h2
      have HO := Lib.hid hown
      have hll : (intsV ((markI k0 len).take i)).length = i := by rw [intsV_length, List.length_take, markI_len]; have := HLT.out; omega
      have HLL := Lib.hid hll
      obtain ⟨u0, e0⟩ : ∃ u, wr.cell? ⟨g, i, none⟩ = some u := by
        have hx := HZ.out.1
        have hy := HLT.out
        rw [HO.out.cellAt _ (by omega)]
        exact ⟨_, List.getElem?_eq_getElem (by rw [List.length_append, hll]; omega)⟩
      have y0 := HO.out.frozenAt i
      obtain ⟨kk, hkk⟩ : ∃ kk : Nat, kk = k0 + i := ⟨_, rfl⟩
      have HKK := Lib.hid hkk
      have hkb : (kk : Int) ≤ 2199023255552 := by omega
      rw [← hkk]
      clear hi hlt hzl hown hll hkk
      go_wp2
      have HS1 := (HO.out.stored i (.int .i64 kk)).1
      rw [take_setI _ i _ zs HLL.out HZ.out.2] at HS1
      go_roundw
      case rel =>
        refine ⟨i + 1, zs.drop 1, by go_num, by rw [show k0 + (i + 1) = kk + 1 by have := HKK.out; omega]; go_num, by have := HLT.out; omega, by rw [List.length_drop]; have h1 := HZ.out.1; have h2 := HZ.out.2; have h3 := HLT.out; omega, ?_, grown_setI HG.out i _⟩
        rw [List.take_add_one, markI_get HLT.out, intsV_append, ← HKK.out]; exact HS1
      case measure => have := HLT.out; simp [intOf]; omega
    · have hge : (len : Int) ≤ i := by omega
      have hie : i = len := by omega
      have hz0' : zs = [] := List.eq_nil_of_length_eq_zero (by omega)
      subst hz0'
      subst hie
      rw [List.append_nil, List.take_of_length_le (by rw [markI_len]; omega)] at hown
      clear hi hlt
      go_wp2
      refine bodyPost_ret (v := .int .i64 ((k0 + i : Nat) : Int)) (by simp [results, Try.f23, go_sem]) rfl ⟨rfl, HG.out, hown⟩

def HeldIRel (k0 len : Nat) (W : World) (kv i : Value) (wr : World) : Prop :=
  ∃ n : Nat, i = .int .i64 n ∧ kv = .int .i64 ((k0 + n : Nat) : Int) ∧ n ≤ len ∧ wr = W

set_option maxHeartbeats 2000000 in
set_option maxRecDepth 100000 in
theorem heldIntS_c (a : Option Addr) (len cap k0 : Nat) (hl : len ≤ 2097152) (hk : k0 ≤ 1099511627776) (W : World) (hN : IntsAt W a len (markI k0 len)) :
    Calls Try.prog 24 #[.slice a len cap, .int .i64 k0] W fun e W' => e = .returned (.int .i64 ((k0 + len : Nat) : Int)) ∧ W' = W := by
  have HN := Lib.hid hN
  have hl' : (len : Int) ≤ 2097152 := by omega
  have hk' : (k0 : Int) ≤ 1099511627776 := by omega
  clear hN
  go_enter Try.func24, Try.ntmps24
  go_wp2
  go_loopw [1, 5] (fun kv i wr => HeldIRel k0 len W kv i wr) (fun _ i _ => len - (intOf i).toNat)
  case atStart => exact ⟨0, rfl, rfl, by omega, rfl⟩
  case round =>
    obtain ⟨i, rfl, rfl, hi, rfl⟩ := hrel
    by_cases hlt : i < len
    · obtain ⟨b, off, n, rfl, hn, c0⟩ := HN.out.at hlt
      have hlt' : (i : Int) < len := by omega
      have hil : (i : Int) ≤ 2097152 := by omega
      have HLT := Lib.hid hlt
      rw [markI_get hlt] at hn
      obtain rfl := Option.some.inj hn
      obtain ⟨kk, hkk⟩ : ∃ kk : Nat, kk = k0 + i := ⟨_, rfl⟩
      have HKK := Lib.hid hkk
      have hkb : (kk : Int) ≤ 2199023255552 := by omega
      rw [← hkk] at c0 ⊢
      clear hlt hi hn hkk
      go_wp2
      go_roundw
      case rel => exact ⟨i + 1, by go_num, by rw [show k0 + (i + 1) = kk + 1 by have := HKK.out; omega]; go_num, by have := HLT.out; omega, rfl⟩
      case measure => have := HLT.out; simp [intOf]; omega
    · have hge : (len : Int) ≤ i := by omega
      have hie : i = len := by omega
      subst hie
      clear hi hlt
      go_wp2
      refine bodyPost_ret (v := .int .i64 ((k0 + i : Nat) : Int)) (by simp [results, Try.f24, go_sem]) rfl ⟨rfl, rfl⟩

end Go.Proofs.Ytoipbocbgadjbaa
