/-
  laws.FnKeepFits returns true for every input, and leaves its arguments as they were.
  Conditions: none of ours; the package-level variables that its row lists hold what the program's text lays (the given tie).
-/
import Derived.Test.YtmlnakkfjecibaaGreatDoorRows
import Derived.Test.YtmlnakkfjecibaaGreatDoorCards
import Derived.Test.YtmlnakkfjecibaaGreatDoorTie
import Derived.WalkKit
import Derived.ProofKit
import Derived.OpenShut
import Derived.ShutString
import Derived.ChangeOld
import Derived.Below
import Derived.Deep.DeepHandedRow
import Derived.Deep.DeepWitnessRowRef
import Derived.Lib.LaidTab
import Derived.LaidMore
import Derived.OpenVars
import Derived.Lay
import Derived.Test.YtmlnakkfjecibaaGreatDoorQ7
import Derived.Test.YtmlnakkfjecibaaGreatDoorQ5
import Derived.Test.YtmlnakkfjecibaaGreatDoorQ6
import Derived.Test.YtmlnakkfjecibaaGreatDoorQ4
import Derived.Test.YtmlnakkfjecibaaGreatDoorQe
namespace Go.Proofs.YtmlnakkfjecibaaGreatDoor.fnKeepFits
open Go.ChangeShapes Go.WideShapes Go.ChangeAt Go.RowKit
open Go.ChangeMaps (open_string shut_string)
set_option linter.unusedVariables false

theorem own : ownKnob Tryz.prog.godebug = none := by kernel_rfl
theorem laidOut : laidOutB Tryz.prog = true := by kernel_rfl

/-- What LogApply tells, its two parts named. -/
def LPost (out : List Nd) (n : Int) (W : World) (e : Ending) (w' : World) : Prop :=
  ∃ sl, e = .returned (.tuple #[sl, .int .i64 n]) ∧ w'.ownsRow W.heap.size 57 3 sl out.length (flatN out) ∧ Below W.heap.size W w'

theorem log_named {ns out : List Nd} {cs : List Cmd} {n : Int} {W : World} {f : Nat} {args : Array Value} (hr : logApply ns cs = (out, n)) (h : Calls Tryz.prog f args W (LogPost (logApply ns cs) W)) : Calls Tryz.prog f args W (LPost out n W) := by
  rw [hr] at h
  exact h

theorem run_shortL {m : Nat} : ∀ (cs : List Cmd) (ns : List Nd), Short m ns → ShortC m cs → Short m (runL ns cs).1
  | [], ns, h, _ => h
  | c :: cs, ns, h, hc => by
    cases ha : applyC ns c with
    | mk out b =>
      cases b with
      | false => rw [runL_cons_no (by rw [ha])]; exact h
      | true =>
        rw [runL_cons_yes ha]
        exact run_shortL cs out (apply_short2 ha h (hc c (by simp))).1 (fun x hx => hc x (List.mem_cons_of_mem _ hx))

theorem log_facts {ns out : List Nd} {cs : List Cmd} {n : Int} {m : Nat} (hr : logApply ns cs = (out, n)) (hs : Short m ns) (hc : ShortC m cs) : out.length ≤ 10 ∧ Short m out ∧ -1 ≤ n ∧ n ≤ cs.length := by
  have hl := logApply_len (ns := ns) (cs := cs)
  rw [hr] at hl
  refine ⟨hl, ?_⟩
  unfold logApply at hr
  split at hr
  · have e1 := congrArg Prod.fst hr
    have e2 := congrArg Prod.snd hr
    simp only at e1 e2
    have := runL_le cs ns
    exact ⟨by rw [← e1]; exact run_shortL cs ns hs hc, by omega, by omega⟩
  · have e1 := congrArg Prod.fst hr
    have e2 := congrArg Prod.snd hr
    simp only at e1 e2
    exact ⟨(by rw [← e1]; intro x hx; cases hx), by omega, by omega⟩

/-- What a pair tells, its two parts named. -/
def MPost (out : List Cmd) (b : Bool) (W : World) (e : Ending) (w' : World) : Prop :=
  ∃ sl, e = .returned (.tuple #[sl, .bool b]) ∧ w'.ownsRow W.heap.size 45 5 sl out.length (flatC out) ∧ Below W.heap.size W w'

theorem move_named {r : List Cmd × Bool} {out : List Cmd} {b : Bool} {W : World} {f : Nat} {args : Array Value} (hr : r = (out, b)) (h : Calls Tryz.prog f args W (MovePost r W)) : Calls Tryz.prog f args W (MPost out b W) := by
  rw [hr] at h
  exact h

theorem undo_short {m : Nat} {cs : List Cmd} (h : ShortC m cs) : ShortC m (undoL cs) ∧ (undoL cs).length ≤ cs.length := by
  unfold undoL
  split
  · refine ⟨fun x hx => ?_, by simp⟩
    obtain ⟨c, hc, rfl⟩ := List.mem_map.1 hx
    have := h c (List.mem_reverse.1 hc)
    unfold undoC
    split
    · exact this
    · exact Nat.zero_le _
  · exact ⟨fun x hx => (by cases hx), by simp⟩

theorem canon_short2 {m : Nat} {cs out : List Cmd} (hs : ShortC m cs) (hr : logCanon cs = (out, true)) : ShortC m out := fun c hc => by
  obtain ⟨_, _, _, _, h5, _⟩ := canon_some hr
  have hk := ((h5 c).1 hc).1
  refine Classical.byContradiction (fun hn => ?_)
  rw [unseen (fun ⟨d, hd, hp⟩ => hn (by rw [← hp]; exact hs d hd))] at hk
  cases hk


theorem lit6 (W : World) (r : Nat) (hr : r < 6) : ∃ p : ByteArray, (W.alloc (.cells #[.string ⟨#[47, 97]⟩, .string ⟨#[47, 98]⟩, .string ⟨#[47, 97, 47, 98]⟩, .string ⟨#[47, 99, 47, 97]⟩, .string ⟨#[47, 98, 47, 97]⟩, .string ⟨#[47, 100]⟩] 9)).cell? ⟨W.heap.size, r, none⟩ = some (.string p) ∧ igV [p] = true ∧ p.size ≤ 8 := by
  match r, hr with
  | 0, _ => exact ⟨⟨#[47, 97]⟩, by rw [World.cell?_alloc_new]; rfl, by decide, by decide⟩
  | 1, _ => exact ⟨⟨#[47, 98]⟩, by rw [World.cell?_alloc_new]; rfl, by decide, by decide⟩
  | 2, _ => exact ⟨⟨#[47, 97, 47, 98]⟩, by rw [World.cell?_alloc_new]; rfl, by decide, by decide⟩
  | 3, _ => exact ⟨⟨#[47, 99, 47, 97]⟩, by rw [World.cell?_alloc_new]; rfl, by decide, by decide⟩
  | 4, _ => exact ⟨⟨#[47, 98, 47, 97]⟩, by rw [World.cell?_alloc_new]; rfl, by decide, by decide⟩
  | 5, _ => exact ⟨⟨#[47, 100]⟩, by rw [World.cell?_alloc_new]; rfl, by decide, by decide⟩

theorem text_lit (W : World) (p : ByteArray) : TextsAt (W.alloc (.cells #[.string p] 9)) (some ⟨W.heap.size, 0, none⟩) 1 [p] := by
  refine ⟨rfl, .inr ⟨W.heap.size, 0, rfl, fun i d hd => ?_⟩⟩
  match i, hd with
  | 0, hd =>
    simp at hd
    subst hd
    rw [World.cell?_alloc_new]; rfl
  | i + 1, hd => simp at hd

theorem under_len (ns : List Nd) (p : ByteArray) : (treeUnder ns p).length ≤ ns.length := by
  unfold treeUnder
  split
  · rw [List.length_map]; exact List.length_filter_le _ _
  · exact Nat.zero_le _
theorem under_short {m : Nat} {ns : List Nd} {p : ByteArray} (h : Short m ns) : ShortX m (treeUnder ns p) := by
  intro u hu
  unfold treeUnder at hu
  split at hu
  · obtain ⟨n, hn, rfl⟩ := List.mem_map.1 hu
    exact h n (List.mem_filter.1 hn).1
  · cases hu
theorem texts_cell1K (cs : List ByteArray) : ∀ u ∈ cs.map Value.string, u.oneCell' = true := by
  intro u hu
  obtain ⟨c, _, rfl⟩ := List.mem_map.1 hu
  rfl
theorem texts_cellsK {W : World} {ad : Addr} {len : Nat} {cs : List ByteArray} (h : TextsAt W (some ad) len cs) : ∀ j u, (cs.map Value.string)[j]? = some u → W.cell? (ad.add j) = some u := by
  intro j u hj
  rw [List.getElem?_map] at hj
  obtain ⟨h1, h0 | ⟨b, off, ha, hh⟩⟩ := h
  · cases hx : cs[j]? with
    | none => rw [hx] at hj; cases hj
    | some x => have := (List.getElem?_eq_some_iff.1 hx).1; omega
  · cases ha
    cases hx : cs[j]? with
    | none => rw [hx] at hj; cases hj
    | some x =>
      rw [hx] at hj
      obtain rfl : Value.string x = u := Option.some.inj hj
      have := hh j x hx
      unfold Addr.add
      split
      · rename_i h0; subst h0; exact this
      · exact this
theorem nil_cap {base : Nat} {e : TypeId} {W : World} {n c : Nat} {a : Option Addr} {xs : List Value} (h : W.ownsRow base e 1 (.slice a n c) n xs) : a = none → c = 0 := by
  rintro rfl
  rcases h.2 with ⟨e, h0⟩ | ⟨g, cap', cur, e, _⟩
  · simp at e; omega
  · simp at e
/-- append(v, x...) at lists of texts. -/
theorem wpList_append_texts {w : World} {ops : Array Oper} {rest : List Oper} {o : Oper} {a : Act} {Q : Exit → Act → World → Prop} (hgd : o.guard = none) (s x : Operand)
    (ho : o.op = .call { callee := .builtin .append, args := #[s, x], argTypes := #[28, 28] })
    (base : Nat) (v : Value) (acc : List ByteArray) (hs : a.eval s = v) (hown : w.ownsRow base 9 1 v acc.length (acc.map Value.string))
    (ad : Option Addr) (len cap : Nat) (zs : List ByteArray) (hx : a.eval x = .slice ad len cap) (hi : TextsAt w ad len zs) (hc : ad = none → cap = 0) (hlen : acc.length + zs.length ≤ 2097152) (hb : base ≤ w.heap.size)
    (h : ∀ v3 w3, w3.ownsRow base 9 1 v3 (acc ++ zs).length ((acc ++ zs).map Value.string) → w.grownBy w3 v.ownBlock → wpList Tryz.prog ops Q rest (a.put o.dst v3) w3) : wpList Tryz.prog ops Q (o :: rest) a w := by
  obtain ⟨i0, hi0, hz0, hz1, hz2⟩ := info_parts infoStr
  have hl := hi.1
  refine wpList_plain hgd fun K hK => ?_
  match ad, hx, hi, hc with
  | none, hx, hi, hc =>
    have h0 : len = 0 := by
      obtain ⟨_, h0 | ⟨b, off, ha, _⟩⟩ := hi
      · exact h0
      · cases ha
    have hz : zs = [] := List.length_eq_zero_iff.1 (by omega)
    subst hz; subst h0
    rw [hc rfl] at hx
    have hrun := run_append_owned_none (P := Tryz.prog) (w := w) base 28 o.type 9 i0 1 Tryz.underlying28 hi0 v acc.length (acc.map Value.string) hown
    unfold Oper.wp
    simp [execOp, ho, resolve, invoke, builtin, hs, hx, hrun, Result.andThen]
    exact hK _ _ (h v w (by rw [List.append_nil]; exact hown) ⟨rfl, rfl, rfl, Nat.le_refl _, fun _ _ _ => rfl⟩)
  | some ad, hx, hi, hc =>
    exact wp_append_own w s x 28 ho base 9 i0 (.string ⟨#[]⟩) 1 16 Tryz.underlying28 hi0 hz0 hz1 hz2 rfl (by decide) v acc.length (acc.map Value.string) hs hown ad len cap (zs.map Value.string) hx (by rw [List.length_map]; omega) (texts_cellsK hi) (texts_cell1K _) (by unfold maxLen; omega) (by omega) hb fun v' w' h1 h2 _ => hK _ _ (h v' w' (by rw [List.length_append, List.map_append, hl]; exact h1) h2)

set_option maxHeartbeats 4000000 in
set_option maxRecDepth 100000 in
theorem walk (a0 : Option Addr) (len0 cap0 : Nat) (z0 : List Int) (a1 : Option Addr) (len1 cap1 : Nat) (z1 : List Int) (w : World) (w0 : IsRow .u8 w a0 len0 cap0 z0) (w1 : IsRow .u8 w a1 len1 cap1 z1) (hE : CmdVars w) :
    Calls Tryz.prog 3 #[.slice a0 len0 cap0, .slice a1 len1 cap1] w fun e w' => e = .returned (.bool true) ∧ Below w.heap.size w w' := by
  have HE := Lib.hid hE
  clear hE w1
  by_cases h : len0 ≤ 1048576
  · have hl : (len0 : Int) ≤ 1048576 := by omega
    by_cases h1 : len1 ≤ 1048576
    · have hl1 : (len1 : Int) ≤ 1048576 := by omega
      have HD := Lib.hid (drawLogFits_c a0 len0 cap0 z0 w w0)
      clear h w0
      go_enter Tryz.func3, Tryz.ntmps3
      go_wp2_with fail
      refine HD.out.mono ?_
      rintro e W1 ⟨sl, ns, sv, cs, rfl, hd, hoc, hcl, hcs⟩
      obtain ⟨a, cap, rfl, hn⟩ := nodes_of_own hd.1
      obtain ⟨ac, cc, rfl, hc⟩ := cmds_of_own hoc
      have HN := Lib.hid hn
      have HC := Lib.hid hc
      have hlen := hd.2.1
      have HL := Lib.hid hlen
      have hsh := hd.2.2.1.mono (show 64 ≤ 66 by omega)
      have HSH := Lib.hid hsh
      have HBL := Lib.hid hd.2.2.2
      have HE1 := Lib.hid (HE.out.keep hd.2.2.2)
      have HCL := Lib.hid hcl
      have HCS := Lib.hid hcs
      obtain ⟨vf, hvf⟩ : ∃ vf, fitsL ns cs = vf := ⟨_, rfl⟩
      have HI := Lib.hid (show Calls Tryz.prog 5 #[.slice a ns.length cap, .slice ac cs.length cc] W1 (BoolPost vf W1) by rw [← hvf]; exact implLogFits_c a ns.length cap ns ac cs.length cc cs (by omega) (by omega) (hsh.mono (by omega)) (hcs.mono (by omega)) W1 hn hc HE1.out)
      have HS := Lib.hid (fun W' (hb : Below W1.heap.size W1 W') => show Calls Tryz.prog 6 #[.slice a ns.length cap, .slice ac cs.length cc] W' (BoolPost vf W') by rw [← hvf]; exact specLogFits_c a ns.length cap ns ac cs.length cc cs (by omega) (by omega) (hsh.mono (by omega)) (hcs.mono (by omega)) W' (hn.keep hb) (hc.keep hb))
      have HVF := Lib.hid hvf
      have hcl21 : (cs.length : Int) ≤ 21 := by omega
      clear hn hc hd hoc hsh hcs hcl hlen hvf
      go_wp2_with fail
      refine HI.out.mono ?_
      rintro e W2 ⟨rfl, hb2⟩
      have B2 := Lib.hid hb2
      clear hb2
      go_wp2_with fail
      refine (HS.out _ B2.out).mono ?_
      rintro e W3 ⟨rfl, hb3⟩
      have B3 := Lib.hid (below_next B2.out hb3)
      clear hb3
      cases vf with
      | false =>
        go_wp2
        go_ret
        exact ⟨rfl, below_next HBL.out B3.out⟩
      | true =>
        obtain ⟨y0, hap, hvo⟩ := fits_apply HVF.out
        obtain ⟨out, hcn, -, hol⟩ := canon_same HVF.out hap
        have HOS := Lib.hid (canon_short2 HCS.out hcn)
        have HOL := Lib.hid hol
        have hol' : (out.length : Int) ≤ 20 := by omega
        obtain ⟨r, hrr⟩ : ∃ r : Nat, len1 % 6 = r := ⟨_, rfl⟩
        have hr6 : r < 6 := by rw [← hrr]; exact Nat.mod_lt _ (by omega)
        have hrem : Int.tmod (len1 : Int) 6 = (r : Int) := by rw [← hrr]; rfl
        have hr0 : (0 : Int) ≤ r := by omega
        have hr5 : (r : Int) < 6 := by omega
        obtain ⟨p, hpc, hpi, hps⟩ := lit6 W3 r hr6
        have HPI := Lib.hid (And.intro hpi hps)
        obtain ⟨kk, hkk⟩ : ∃ kk, keepL out [p] = kk := ⟨_, rfl⟩
        obtain ⟨x, n, hx⟩ : ∃ x n, logApply ns kk = (x, n) := ⟨_, _, rfl⟩
        have HKF := Lib.hid (show (n < (kk.length : Int) → x.length = 10) ∧ (¬ n < (kk.length : Int) → treeGet x p = treeGet ns p ∧ ∀ u ∈ treeUnder ns p ++ treeUnder x p, treeGet x u = treeGet ns u) by
          have := keep_fits HVF.out hpi hcn (x := x) (n := n) (by rw [hkk]; exact hx)
          rwa [hkk] at this)
        have HKL := Lib.hid (show kk.length ≤ 20 by rw [← hkk]; have := keep_len out [p]; omega)
        have HKS := Lib.hid (show ShortC 66 kk from fun c hc => HOS.out c (by rw [← hkk] at hc; exact (keep_mem hc).2.2.1))
        have HXF := Lib.hid (log_facts hx HSH.out HKS.out)
        have HLC := Lib.hid (fun W' (hb : Below W1.heap.size W1 W') => move_named hcn (logCanon_c ac cs.length cc cs (by have := HCL.out; omega) (HCS.out.mono (by omega)) W' (HC.out.keep hb)))
        have HKC := Lib.hid (fun y (q : Nat) z (q2 : Nat) W' (h : CmdsAt W' y out.length out) (hz : TextsAt W' z 1 [p]) => show Calls Tryz.prog 8 #[.slice y out.length q, .slice z 1 q2] W' (CmdsPost kk W') by rw [← hkk]; exact implKeep_c y out.length q out z 1 q2 [p] (by have := HOL.out; omega) (by omega) (HOS.out.mono (by omega)) (fun c hc => by rw [List.mem_singleton.1 hc]; have := HPI.out.2; omega) W' h hz)
        have HAX := Lib.hid (fun y (q : Nat) W' (hb : Below W1.heap.size W1 W') (h : CmdsAt W' y kk.length kk) => log_named hx (implLogApply_c a ns.length cap ns y kk.length q kk (by have := HL.out; omega) (by have := HKL.out; omega) (HSH.out.mono (by omega)) (HKS.out.mono (by omega)) W' (HN.out.keep hb) h (HE1.out.keep hb)))
        have hkl20 : (kk.length : Int) ≤ 20 := by have := HKL.out; omega
        have hnm : -1 ≤ n := HXF.out.2.2.1
        have hnx : n ≤ 20 := by have := HXF.out.2.2.2; omega
        clear hap hvo hcn hol hrr hr6 hpi hps hkk hx
        go_wp2_with fail
        refine (HLC.out _ (below_next B3.out (below_box _ _))).mono ?_
        rintro e W5 ⟨s5, rfl, ho5, hb5⟩
        obtain ⟨x5, p5, rfl, hc5⟩ := cmds_of_own ho5
        have B5 := Lib.hid (below_next (below_next B3.out (below_box _ _)) hb5)
        have HC5 := Lib.hid hc5
        clear ho5 hb5 hc5 hpc hrem hr0 hr5
        go_wp2_with fail
        refine (HKC.out _ _ _ _ _ (HC5.out.keep (below_box _ _)) (text_lit W5 p)).mono ?_
        rintro e W6 ⟨⟨s6, rfl, ho6⟩, hb6⟩
        obtain ⟨x6, p6, rfl, hc6⟩ := cmds_of_own ho6
        have B6 := Lib.hid (below_next (below_next B5.out (below_box _ _)) hb6)
        have HC6 := Lib.hid hc6
        clear ho6 hb6 hc6
        go_wp2_with fail
        refine (HAX.out _ _ _ B6.out HC6.out).mono ?_
        rintro e W7 ⟨s7, rfl, ho7, hb7⟩
        obtain ⟨x7, p7, rfl, hn7⟩ := nodes_of_own ho7
        have B7 := Lib.hid (below_next B6.out hb7)
        have HN7 := Lib.hid hn7
        clear ho7 hb7 hn7
        have hxl10 : (x.length : Int) ≤ 10 := by have := HXF.out.1; omega
        by_cases hlt : n < (kk.length : Int)
        · have hten : (x.length : Int) = 10 := by have := HKF.out.1 hlt; omega
          have hte : ((x.length : Int) == 10) = true := by rw [hten]; rfl
          have HTE := Lib.hid (HKF.out.1 hlt)
          clear hten hte
          go_wp2
          go_ret
          exact ⟨ret_bool (by first | (rw [HTE.out]; rfl) | (simp [HTE.out])), below_next HBL.out B7.out⟩
        · obtain ⟨hgp, hgu⟩ := HKF.out.2 (by omega)
          have HGP := Lib.hid hgp
          have HGU := Lib.hid hgu
          have HU1 := Lib.hid (fun W' (hb : Below W1.heap.size W1 W') => implTreeUnder_c a ns.length cap ns p (by have := HL.out; omega) (HSH.out.mono (by omega)) (by have := HPI.out.2; omega) W' (HN.out.keep hb))
          have HU2 := Lib.hid (fun W' (hb : Below W7.heap.size W7 W') => implTreeUnder_c x7 x.length p7 x p (by have := HXF.out.1; omega) (HXF.out.2.1.mono (by omega)) (by have := HPI.out.2; omega) W' (HN7.out.keep hb))
          obtain ⟨u1, hu1⟩ : ∃ u, treeUnder ns p = u := ⟨_, rfl⟩
          obtain ⟨u2, hu2⟩ : ∃ u, treeUnder x p = u := ⟨_, rfl⟩
          rw [hu1, hu2] at HGU
          have HUL := Lib.hid (show u1.length ≤ 11 ∧ u2.length ≤ 11 by
            rw [← hu1, ← hu2]
            have h1 := under_len ns p
            have h2 := under_len x p
            have h3 := HL.out
            have h4 := HXF.out.1
            omega)
          have HUS := Lib.hid (show ShortX 66 (u1 ++ u2) from fun v hv => by
            rw [← hu1, ← hu2] at hv
            rcases List.mem_append.1 hv with h | h
            · exact under_short HSH.out v h
            · exact under_short HXF.out.2.1 v h)
          rw [hu1] at HU1
          rw [hu2] at HU2
          clear hgp hgu hu1 hu2
          go_wp2_with fail
          refine (HU1.out _ B7.out).mono ?_
          rintro e W8 ⟨⟨s8, rfl, ho8⟩, hb8⟩
          have X8 := Lib.hid hb8
          have HO8 := Lib.hid ho8
          clear ho8 hb8
          go_wp2_with fail
          refine (HU2.out _ X8.out).mono ?_
          rintro e W9 ⟨⟨s9, rfl, ho9⟩, hb9⟩
          have X9 := Lib.hid (below_next X8.out hb9)
          have HO9 := Lib.hid (own_below HO8.out hb9)
          obtain ⟨x9, p9, rfl, ht9⟩ := texts_of_own ho9
          have HT9 := Lib.hid ht9
          have HC9 := Lib.hid (nil_cap ho9)
          clear ho9 hb9 ht9
          go_wp2_with (at_builtin; refine wpList_append_texts rfl _ _ rfl W7.heap.size _ u1 rfl HO9.out _ _ _ u2 rfl HT9.out HC9.out (by have := HUL.out; omega) X9.out.size ?_; intro v10 W10 ho10 hg10; have X10 := Lib.hid (X9.out.grown hg10 X9.out.size (fun k e => (HO9.out.lt k e).1)); obtain ⟨uu, huu⟩ : ∃ uu, u1 ++ u2 = uu := ⟨_, rfl⟩; rw [huu] at ho10 HGU HUS; have HUU := Lib.hid (show uu.length ≤ 22 by rw [← huu, List.length_append]; have := HUL.out; omega); obtain ⟨x10, p10, rfl, ht10⟩ := texts_of_own ho10; have HT10 := Lib.hid ht10; clear ho10 hg10 huu ht10)
          have hul : (uu.length : Int) ≤ 22 := by have := HUU.out; omega
          have N7 := Lib.hid (HN7.out.keep X10.out)
          have N1 := Lib.hid (HN.out.keep (below_next B7.out X10.out))
          go_loopw [17] (fun i wr => ∃ k : Nat, i = .int .i64 k ∧ k ≤ uu.length ∧ Hid (Below W10.heap.size W10 wr)) (fun i _ => uu.length - (intOf i).toNat)
          case atStart => exact ⟨0, rfl, Nat.zero_le _, Lib.hid (Below.refl _ _)⟩
          case round =>
            obtain ⟨k, rfl, hk, HB⟩ := hrel
            by_cases hkt : k < uu.length
            · have hkt' : (k : Int) < uu.length := by omega
              have hw1 : IntKind.i64.wrap ((k : Int) + 1) = (k : Int) + 1 := IntWalk.i64_in _ (by omega)
              have HKT := Lib.hid hkt
              obtain ⟨g, off, u, hga, hu, x0⟩ := (HT10.out.keep HB.out).node hkt
              obtain ⟨ck, cv, hcc⟩ : ∃ k v, treeGet ns u = (k, v) := ⟨_, _, rfl⟩
              have hcx : treeGet x u = (ck, cv) := by rw [HGU.out u (List.mem_of_getElem? hu)]; exact hcc
              have hus : u.size ≤ 66 := HUS.out.at hu
              have HG1 := Lib.hid (fun W' (hb : Below W10.heap.size W10 W') => show Calls Tryz.prog 11 #[.slice x7 x.length p7, .string u] W' (ConRet ck cv W') by
                have := implTreeGet_c x7 x.length p7 x u (by have := HXF.out.1; omega) (HXF.out.2.1.mono (by omega)) (by omega) W' (N7.out.keep hb)
                rwa [hcx] at this)
              have HG2 := Lib.hid (fun W' (hb : Below W10.heap.size W10 W') => show Calls Tryz.prog 11 #[.slice a ns.length cap, .string u] W' (ConRet ck cv W') by
                have := implTreeGet_c a ns.length cap ns u (by have := HL.out; omega) (HSH.out.mono (by omega)) (by omega) W' (N1.out.keep hb)
                rwa [hcc] at this)
              unfold ConRet con at HG1 HG2
              have hne := fun w => (conNeQ ck cv ck cv w).trans (show _ = Result.ok (Value.bool false) w by simp)
              have HS0 := Lib.hid (show wr.drew.cell? ⟨g, off + k, none⟩ = some (.string u) ∧ Below W10.heap.size W10 wr.drew from ⟨x0, HB.out.drew⟩)
              have HKP := Lib.hid (fun (u1 u2 : World) (h : u1.cell? ⟨g, off + k, none⟩ = some (.string u) ∧ Below W10.heap.size W10 u1) (hb : Below u1.heap.size u1 u2) => show u2.cell? ⟨g, off + k, none⟩ = some (.string u) ∧ Below W10.heap.size W10 u2 from ⟨cell_kept hb h.1, below_next h.2 hb⟩)
              have H1 := Lib.hid (fun W' (h : W'.cell? ⟨g, off + k, none⟩ = some (.string u) ∧ Below W10.heap.size W10 W') => HG1.out W' h.2)
              have H2 := Lib.hid (fun W' (h : W'.cell? ⟨g, off + k, none⟩ = some (.string u) ∧ Below W10.heap.size W10 W') => HG2.out W' h.2)
              subst hga
              clear hk hkt hu hcc hcx hus x0 HG1 HG2
              go_upto_region 19 with (fail)
              go_region_held3 (fun w' => w'.cell? ⟨g, off + k, none⟩ = some (.string u) ∧ Below W10.heap.size W10 w')
                (first | exact HS0.out | exact HSa.out | exact HSb.out | exact HSab.out | exact HSba.out)
                (first
                  | (go_at_call 11; (with_reducible refine (H1.out _ HS0.out).mono ?_); rintro e W20 ⟨rfl, hb20⟩; have HSa := Lib.hid (HKP.out _ _ HS0.out hb20); clear hb20)
                  | (go_at_call 11; (with_reducible refine (H2.out _ HS0.out).mono ?_); rintro e W21 ⟨rfl, hb21⟩; have HSb := Lib.hid (HKP.out _ _ HS0.out hb21); clear hb21)
                  | (go_at_call 11; (with_reducible refine (H2.out _ HSa.out).mono ?_); rintro e W22 ⟨rfl, hb22⟩; have HSab := Lib.hid (HKP.out _ _ HSa.out hb22); clear hb22)
                  | (go_at_call 11; (with_reducible refine (H1.out _ HSb.out).mono ?_); rintro e W23 ⟨rfl, hb23⟩; have HSba := Lib.hid (HKP.out _ _ HSb.out hb23); clear hb23))
              all_goals
                rename_i hS
                have HB9 := Lib.hid hS.2
                clear hS
                go_wp2
                (try go_big_round)
                exact ⟨⟨k + 1, by go_num, HKT.out, HB9⟩, by have := HKT.out; simp [intOf]; omega⟩
            · have hge : (uu.length : Int) ≤ k := by omega
              obtain ⟨ck, cv, hcc⟩ : ∃ k v, treeGet ns p = (k, v) := ⟨_, _, rfl⟩
              have hcx : treeGet x p = (ck, cv) := HGP.out.trans hcc
              have HG1 := Lib.hid (fun W' (hb : Below W10.heap.size W10 W') => show Calls Tryz.prog 11 #[.slice x7 x.length p7, .string p] W' (ConRet ck cv W') by
                have := implTreeGet_c x7 x.length p7 x p (by have := HXF.out.1; omega) (HXF.out.2.1.mono (by omega)) (by have := HPI.out.2; omega) W' (N7.out.keep hb)
                rwa [hcx] at this)
              have HG2 := Lib.hid (fun W' (hb : Below W10.heap.size W10 W') => show Calls Tryz.prog 11 #[.slice a ns.length cap, .string p] W' (ConRet ck cv W') by
                have := implTreeGet_c a ns.length cap ns p (by have := HL.out; omega) (HSH.out.mono (by omega)) (by have := HPI.out.2; omega) W' (N1.out.keep hb)
                rwa [hcc] at this)
              unfold ConRet con at HG1 HG2
              have heq := fun w => (conEqQ ck cv ck cv w).trans (show _ = Result.ok (Value.bool true) w by simp)
              clear hk hkt hcc hcx
              go_wp2_with fail
              refine (HG1.out _ HB.out).mono ?_
              rintro e W11 ⟨rfl, hb11⟩
              have X11 := Lib.hid (below_next HB.out hb11)
              clear hb11
              go_wp2_with fail
              refine (HG2.out _ X11.out).mono ?_
              rintro e W12 ⟨rfl, hb12⟩
              have X12 := Lib.hid (below_next X11.out hb12)
              clear hb12
              go_wp2
              go_ret
              exact ⟨rfl, below_next HBL.out (below_next B7.out (below_next X10.out X12.out))⟩
    · have hl1 : ¬ ((len1 : Int) ≤ 1048576) := by omega
      have hl12 : (1048576 : Int) < len1 := by omega
      clear h1 w0
      go_enter Tryz.func3, Tryz.ntmps3
      go_wp2
      go_ret
      exact ⟨rfl, Below.refl _ _⟩
  · have hl : ¬ ((len0 : Int) ≤ 1048576) := by omega
    have hl2 : (1048576 : Int) < len0 := by omega
    clear h w0
    go_enter Tryz.func3, Tryz.ntmps3
    go_wp2
    go_ret
    exact ⟨rfl, Below.refl _ _⟩


set_option maxRecDepth 100000 in
/-- What the walk gives, for every argument and every world that holds the listed variables. -/
theorem contract (H : Type) (enc : TypeId × Value → H) (W : World) (base : Nat) (args : Array Value) (ds gs : List (DataW H)) (before : List MemPlace)
    (hval0 : ∀ (j : Nat) t v, Tryz.f3.params[j]? = some t → args[j]? = some v → Value.okWide Tryz.prog W .any base t v)
    (hW : DataW.Whole enc Tryz.prog Tryz.f3.params.toList Rows.fnKeepFitsSpec.vars false W args.toList ds gs before) (hL : laidMetH Tryz.prog Rows.fnKeepFitsRow.laid W) (hsh : W.ShapedOpen Tryz.prog) :
    Calls Tryz.prog 3 args W fun e W' => ∃ v, e = .returned v ∧ Rows.fnKeepFitsSpec.post enc Tryz.prog Tryz.f3 false true false false W args v W' := by
  have hval : ∀ (j : Nat) t v, Tryz.f3.params[j]? = some t → args[j]? = some v → Value.okWide Tryz.prog W .any base t v := hval0
  have hW' := hW
  obtain ⟨p, q, hA0, hV, rfl, hfz, hnd⟩ := hW
  have hA : DataW.TrodAll enc Tryz.prog W 0 (fun _ => true) true Tryz.f3.params.toList args.toList ds p := hA0
  rw [Tryz.params3] at hA hval
  obtain ⟨v0, vs0, d0, ds0, p0, q0, hargs, rfl, rfl, h0, r0⟩ := trodAll_cons hA
  obtain ⟨v1, vs1, d1, ds1, p1, q1, rfl, rfl, rfl, h1, r1⟩ := trodAll_cons r0
  obtain ⟨rfl, rfl, rfl⟩ := trodAll_nil r1
  obtain rfl : args = #[v0, v1] := by cases args; simp_all
  obtain ⟨_, _, _, _, e0, _, _, _, _, _, e1, _, rfl, -⟩ := trodVars_two hV
  obtain ⟨a0, len0, cap0, rfl⟩ := okWide_slice Tryz.underlying22 (hval 0 22 v0 rfl rfl)
  have k0 := h0
  have lt0 : ∀ x ∈ p0, x.block < W.heap.size := by obtain ⟨m, hm⟩ := k0; exact DataW.trod_lt m _ _ _ hm
  obtain ⟨z0, w0⟩ : ∃ zs, IsRow .u8 W a0 len0 cap0 zs := by
    obtain ⟨fuel, hf⟩ := h0
    rcases open_ints Tryz.underlying22 Tryz.underlying5 (by kernel_rfl) hf with ⟨hcs, _⟩ | ⟨x, l, c, zs, hcs, _, hl, hm, hz, _, hcell, hwz⟩
    · simp [Value.cells] at hcs
      obtain ⟨rfl, rfl, rfl⟩ := hcs
      exact ⟨[], .inl ⟨rfl, rfl, rfl, rfl⟩⟩
    · simp [Value.cells] at hcs
      obtain ⟨rfl, rfl, rfl⟩ := hcs
      exact ⟨zs, .inr ⟨_, rfl, hl, hm, by simpa using hz, hcell, hwz⟩⟩
  obtain ⟨a1, len1, cap1, rfl⟩ := okWide_slice Tryz.underlying22 (hval 1 22 v1 rfl rfl)
  have k1 := h1
  have lt1 : ∀ x ∈ p1, x.block < W.heap.size := by obtain ⟨m, hm⟩ := k1; exact DataW.trod_lt m _ _ _ hm
  obtain ⟨z1, w1⟩ : ∃ zs, IsRow .u8 W a1 len1 cap1 zs := by
    obtain ⟨fuel, hf⟩ := h1
    rcases open_ints Tryz.underlying22 Tryz.underlying5 (by kernel_rfl) hf with ⟨hcs, _⟩ | ⟨x, l, c, zs, hcs, _, hl, hm, hz, _, hcell, hwz⟩
    · simp [Value.cells] at hcs
      obtain ⟨rfl, rfl, rfl⟩ := hcs
      exact ⟨[], .inl ⟨rfl, rfl, rfl, rfl⟩⟩
    · simp [Value.cells] at hcs
      obtain ⟨rfl, rfl, rfl⟩ := hcs
      exact ⟨zs, .inr ⟨_, rfl, hl, hm, by simpa using hz, hcell, hwz⟩⟩
  clear hA0 hval0
  refine (walk a0 len0 cap0 z0 a1 len1 cap1 z1 W w0 w1 (cmdVars_of hL (by kernel_rfl) (by kernel_rfl) (by kernel_rfl))).mono fun e W' ⟨he, bel⟩ => ?_
  subst he
  exact ⟨_, rfl, _, _, _, [], _, _, hW', trodAll_mk1 (shut_bool Tryz.underlying4 _), (trodAll_cons_mk (Below.trod laidOut (by kernel_rfl) (of_decide_eq_true (by kernel_rfl)) k0 bel lt0) (trodAll_cons_mk (Below.trod laidOut (by kernel_rfl) (of_decide_eq_true (by kernel_rfl)) k1 bel lt1) trodAll_mk0)), Below.trodVars laidOut bel (by kernel_rfl) hV, bel.frame _, fun h => by cases h⟩

theorem laid_met (os : Os) : laidMet Tryz.prog Rows.fnKeepFitsRow.laid ((World.laidAll Tryz.prog os Rows.fnKeepFitsRow.laid).forCall (fun _ _ => 0) ⟨#[], #[.slice none 0 0, .slice none 0 0], []⟩).memory :=
  laidMet_laidAll _ (by kernel_rfl) (by kernel_rfl)
theorem reads (os : Os) {H : Type} (enc : TypeId × Value → H) : ∃ x, DataW.whole enc Tryz.prog ((World.laidAll Tryz.prog os Rows.fnKeepFitsRow.laid).forCall (fun _ _ => 0) ⟨#[], #[.slice none 0 0, .slice none 0 0], []⟩).memory Tryz.f3.params.toList Rows.fnKeepFitsSpec.vars false #[Value.slice none 0 0, Value.slice none 0 0].toList 8 = some x :=
  Option.isSome_iff_exists.1 (by kernel_rfl)

set_option maxRecDepth 100000 in
theorem lifted (os : Os) (started : os.Started) (H : Type) (enc : TypeId × Value → H) (F : Stop.Interp) :
    ReturnsInHanded {} Tryz.checked os 3 .any ((OpenSpec.ofChange Rows.fnKeepFitsSpec).preRow enc Tryz.prog Tryz.f3 Rows.fnKeepFitsRow.domain false Rows.fnKeepFitsRow.laid) (((OpenSpec.ofChange Rows.fnKeepFitsSpec).at F).post enc Tryz.prog Tryz.f3 false true false false) := by
  obtain ⟨x, hx⟩ := reads os enc
  refine returnsInHanded_of_row (C := Tryz.checked) (s := OpenSpec.ofChange Rows.fnKeepFitsSpec) own started (by kernel_rfl) Tryz.func3
    (witness_row_atRef (enc := enc) (C := Tryz.checked) false (World.laidAll Tryz.prog os Rows.fnKeepFitsRow.laid) #[.slice none 0 0, .slice none 0 0] rfl (by kernel_rfl) (by kernel_rfl) (by kernel_rfl)
      (OpenSpec.preRow_of_cond 8 hx (by kernel_rfl) (fun k hk => by cases hk) (by kernel_rfl) (laid_met os))) ?_
  intro W base args ds gs before hval hW _ _ _ hL hsh _
  exact contract H enc W base args ds gs before hval hW hL hsh

theorem said : Rows.FnKeepFitsSaid :=
  OpenClaim.holds_of_cond 3 Tryz.f3 rfl rfl rfl rfl rfl rfl rfl ⟨rfl, rfl, rfl, rfl, rfl⟩ rfl rfl rfl rfl rfl (by kernel_rfl) Tryz.func3 (by kernel_rfl)
    (of_decide_eq_true (by kernel_rfl)) (by unfold Func.isWrapper; first | (rw [if_pos (by decide +kernel)]; kernel_rfl) | (rw [if_neg (by decide +kernel)]; exact ⟨rfl, rfl⟩))
    (fun os started H enc _ F => by rw [OpenClaim.pre_eq_preRow]; exact lifted os started H enc F)

/-- No parameter wants a stand-in; the program's own looks: what the card asks. -/
theorem plain (f : FuncId) (fn : Func) (hf : Tryz.pinned.checked.prog.funcNamed Rows.fnKeepFitsRow.func = some f) (hfn : Tryz.pinned.checked.prog.funcs[f]? = some fn) :
    true = Tryz.pinned.checked.prog.looks [] ∧ ∀ (j : Nat) t, fn.params[j]? = some t → Tryz.pinned.checked.prog.wantsStandIn t = false := by
  obtain rfl : f = 3 := Option.some.inj ((show Tryz.prog.funcNamed Rows.fnKeepFitsRow.func = some 3 by kernel_rfl).symm.trans hf) |>.symm
  obtain rfl : fn = Tryz.f3 := (Option.some.inj (Tryz.func3.symm.trans hfn)).symm
  refine ⟨by kernel_rfl, fun j t ht => ?_⟩
  rw [Tryz.params3] at ht
  have hm := Array.mem_of_getElem? ht
  simp at hm
  rcases hm with rfl
  · exact (show Tryz.prog.wantsStandIn 22 = false by kernel_rfl)

/-- THE CARD. -/
theorem card : Rows.FnKeepFitsCardSaid :=
  Claim7.holds_tied_plain_at .later [] _ _ _ _ said (fun _ h => by cases h) (by kernel_rfl) (fun _ h => by cases h) fnKeepFits_row_tie rfl ⟨rfl, rfl⟩ (by kernel_rfl) rfl plain (by kernel_rfl)
end Go.Proofs.YtmlnakkfjecibaaGreatDoor.fnKeepFits
