/-
  laws.FnOrderAll returns true for every input, and leaves its arguments as they were.
  Conditions: none of ours; the package-level variables that its row lists hold what the program's text lays (the given tie).
-/
import Derived.Test.YtpjoahddbdmbpaaGreatDoorRows
import Derived.Test.YtpjoahddbdmbpaaGreatDoorCards
import Derived.Test.YtpjoahddbdmbpaaGreatDoorTie
import Derived.WalkKit
import Derived.ProofKit
import Derived.OpenShut
import Derived.ShutString
import Derived.ChangeOld
import Derived.Below
import Derived.Deep.DeepHandedRow
import Derived.Deep.DeepWitnessRowRef
import Derived.Lib.LaidTab
import Derived.LaidMore
import Derived.OpenVars
import Derived.Lay
import Derived.Test.YtpjoahddbdmbpaaGreatDoorQ9
import Derived.Test.YtpjoahddbdmbpaaGreatDoorQ10
import Derived.Test.YtpjoahddbdmbpaaGreatDoorQ11
import Derived.Test.YtpjoahddbdmbpaaGreatDoorSm
namespace Go.Proofs.YtpjoahddbdmbpaaGreatDoor.fnOrderAll
open Go.ChangeShapes Go.WideShapes Go.ChangeAt Go.RowKit
open Go.ChangeMaps (open_string shut_string)
set_option linter.unusedVariables false

theorem own : ownKnob Tryz.prog.godebug = none := by kernel_rfl
theorem laidOut : laidOutB Tryz.prog = true := by kernel_rfl

def FitsDraw (W : World) (e : Ending) (W' : World) : Prop :=
  ∃ (sl : Value) (cs : List Cmd), e = .returned sl ∧ W'.ownsRow W.heap.size 36 5 sl cs.length (flatC cs) ∧ cs.length ≤ 22 ∧ ShortC 66 cs ∧ Below W.heap.size W W'

set_option maxHeartbeats 2000000 in
set_option maxRecDepth 100000 in
theorem drawOrderFits_c (a : Option Addr) (len cap : Nat) (zs : List Int) (W : World) (h : IsRow .u8 W a len cap zs) :
    Calls Tryz.prog 10 #[.slice a len cap] W (FitsDraw W) := by
  have HO := Lib.hid (l6Open_c a len cap zs W h)
  have HM := Lib.hid (fun W1 hR => l91Mixed_c (W.heap.size + 1) W.heap.size 0 W1 (by omega) hR)
  have HPK := Lib.hid (fun q n h0 h1 W1 hq hR => pick_c (W.heap.size + 1) W.heap.size q n h0 h1 W1 hq hR)
  clear h
  go_enter Tryz.func10, Tryz.ntmps10
  go_wp2_with fail
  refine HO.out.mono ?_; rintro e W1 ⟨rfl, hR, hB⟩
  have HS1 := Lib.hid (show W.heap.size < W1.heap.size from hR.lt)
  have HB1 := Lib.hid hB
  clear hB
  go_wp2_with fail
  refine (HM.out _ hR).mono ?_; rintro e W2 ⟨v, sl, out, q, rfl, ho, hl, hs, hq, hR2, hg⟩
  obtain ⟨a2, c2, rfl, -⟩ := cmds_of_own ho
  have HO2 := Lib.hid ho
  have HG2 := Lib.hid hg
  have HX := Lib.hid (And.intro hl (And.intro hs hq))
  have HR2 := Lib.hid hR2
  clear ho hl hs hq hR hR2 hg
  by_cases h0 : out.length = 0
  · have h0' : ¬ ((0 : Int) < out.length) := by omega
    have B2 := Lib.hid (below_of_reader HB1.out HG2.out)
    clear h0
    go_wp2
    go_ret
    exact ⟨_, out, rfl, own_mono HO2.out (Nat.le_of_lt HS1.out), by have := HX.out.1; omega, HX.out.2.1, B2.out⟩
  · have h0' : (0 : Int) < out.length := by omega
    have HL0 := Lib.hid (show 0 < out.length by omega)
    obtain ⟨g, c3, hv, hgb, hlc, hcm⟩ := own_sliceC HO2.out (by omega)
    injection hv with e1 e2 e3
    subst e1; subst e3
    clear h0 hgb hlc hcm e2
    go_wp2_with fail
    refine (HPK.out q 20 (by omega) (by omega) _ (by have := HX.out.2.2; omega) HR2.out).mono ?_; rintro e W3 ⟨t, rfl, t0, t1, hR3, hg3⟩
    have HO3 := Lib.hid (own_reader HO2.out HS1.out hg3)
    have HG3 := Lib.hid (grownBy_trans HG2.out hg3)
    have B3 := Lib.hid (below_of_reader HB1.out HG3.out)
    clear hg3 hR3
    by_cases ht : t = 0
    · subst ht
      obtain ⟨x, hx⟩ : ∃ x, out[0]? = some x := ⟨_, List.getElem?_eq_getElem HL0.out⟩
      have HXS := Lib.hid (HX.out.2.1.at hx)
      obtain ⟨c0, c1, c2', c3', c4⟩ := hp_cells HO3.out (i := 0) HL0.out rfl
      rw [get_atK hx] at c0 c1 c2' c3' c4
      rw [Nat.zero_mul] at c0 c1 c2' c3' c4
      obtain ⟨p, fk, fv, tk, tv⟩ := x
      simp only [Nat.zero_add] at c0 c1 c2' c3' c4
      clear hx t0 t1
      go_wp2_with (at_builtin; refine wpList_append_cmds rfl _ _ rfl W.heap.size _ out rfl (own_below (own_mono HO3.out (Nat.le_of_lt HS1.out)) (below_box _ _)) _ _ _ [(⟨p, fk, fv, tk, tv⟩ : Cmd)] rfl (cmds_lit _ (⟨p, fk, fv, tk, tv⟩ : Cmd)) (by have := HX.out.1; simp; omega) (by have := B3.out.size; simp; omega) ?_; intro v4 w4 ho4 hg4; have HB4 := Lib.hid ((B3.out.alloc B3.out.size _).grown hg4 (by have := B3.out.size; simp; omega) (fun k e => by cases e; have := ((own_mono HO3.out (Nat.le_of_lt HS1.out)).lt _ rfl).1; exact this)); clear hg4)
      go_ret
      exact ⟨_, _, rfl, ho4, by have := HX.out.1; simp; omega, fun c hc => by
        rcases List.mem_append.1 hc with h | h
        · exact HX.out.2.1 c h
        · rw [List.mem_singleton.1 h]; exact HXS.out, HB4.out⟩
    · have ht0 : (t == 0) = false := beq_eq_false_iff_ne.2 ht
      clear ht t0 t1
      go_wp2
      go_ret
      exact ⟨_, out, rfl, own_mono HO3.out (Nat.le_of_lt HS1.out), by have := HX.out.1; omega, HX.out.2.1, B3.out⟩

/-- What LogApply tells, its two parts named. -/
def LPost (out : List Nd) (n : Int) (W : World) (e : Ending) (w' : World) : Prop :=
  ∃ sl, e = .returned (.tuple #[sl, .int .i64 n]) ∧ w'.ownsRow W.heap.size 75 3 sl out.length (flatN out) ∧ Below W.heap.size W w'

theorem log_named {ns out : List Nd} {cs : List Cmd} {n : Int} {W : World} {f : Nat} {args : Array Value} (hr : logApply ns cs = (out, n)) (h : Calls Tryz.prog f args W (LogPost (logApply ns cs) W)) : Calls Tryz.prog f args W (LPost out n W) := by
  rw [hr] at h
  exact h

theorem run_shortL {m : Nat} : ∀ (cs : List Cmd) (ns : List Nd), Short m ns → ShortC m cs → Short m (runL ns cs).1
  | [], ns, h, _ => h
  | c :: cs, ns, h, hc => by
    cases ha : applyC ns c with
    | mk out b =>
      cases b with
      | false => rw [runL_cons_no (by rw [ha])]; exact h
      | true =>
        rw [runL_cons_yes ha]
        exact run_shortL cs out (apply_short2 ha h (hc c (by simp))).1 (fun x hx => hc x (List.mem_cons_of_mem _ hx))

theorem log_facts {ns out : List Nd} {cs : List Cmd} {n : Int} {m : Nat} (hr : logApply ns cs = (out, n)) (hs : Short m ns) (hc : ShortC m cs) : out.length ≤ 10 ∧ Short m out ∧ -1 ≤ n ∧ n ≤ cs.length := by
  have hl := logApply_len (ns := ns) (cs := cs)
  rw [hr] at hl
  refine ⟨hl, ?_⟩
  unfold logApply at hr
  split at hr
  · have e1 := congrArg Prod.fst hr
    have e2 := congrArg Prod.snd hr
    simp only at e1 e2
    have := runL_le cs ns
    exact ⟨by rw [← e1]; exact run_shortL cs ns hs hc, by omega, by omega⟩
  · have e1 := congrArg Prod.fst hr
    have e2 := congrArg Prod.snd hr
    simp only at e1 e2
    exact ⟨(by rw [← e1]; intro x hx; cases hx), by omega, by omega⟩

/-- What a pair tells, its two parts named. -/
def MPost (out : List Cmd) (b : Bool) (W : World) (e : Ending) (w' : World) : Prop :=
  ∃ sl, e = .returned (.tuple #[sl, .bool b]) ∧ w'.ownsRow W.heap.size 36 5 sl out.length (flatC out) ∧ Below W.heap.size W w'

theorem move_named {r : List Cmd × Bool} {out : List Cmd} {b : Bool} {W : World} {f : Nat} {args : Array Value} (hr : r = (out, b)) (h : Calls Tryz.prog f args W (MovePost r W)) : Calls Tryz.prog f args W (MPost out b W) := by
  rw [hr] at h
  exact h

theorem canon_short2 {m : Nat} {cs out : List Cmd} (hs : ShortC m cs) (hr : logCanon cs = (out, true)) : ShortC m out := fun c hc => by
  obtain ⟨_, _, _, _, h5, _⟩ := canon_some hr
  have hk := ((h5 c).1 hc).1
  refine Classical.byContradiction (fun hn => ?_)
  rw [unseen (fun ⟨d, hd, hp⟩ => hn (by rw [← hp]; exact hs d hd))] at hk
  cases hk

def AllRel (cs : List Cmd) (W1 : World) (t i : Value) (wr : World) : Prop :=
  ∃ (n cap : Nat) (a : Option Addr) (ns : List Nd), i = .int .i64 n ∧ n ≤ cs.length ∧ t = .slice a ns.length cap ∧ Hid (wr.ownsRow W1.heap.size 75 3 (.slice a ns.length cap) ns.length (flatN ns)) ∧ Hid (validT ns = true ∧ Short 66 ns) ∧ Hid (Below W1.heap.size W1 wr)

set_option maxHeartbeats 4000000 in
set_option maxRecDepth 100000 in
theorem walk (a0 : Option Addr) (len0 cap0 : Nat) (z0 : List Int) (w : World) (w0 : IsRow .u8 w a0 len0 cap0 z0) (hE : CmdVars w) :
    Calls Tryz.prog 4 #[.slice a0 len0 cap0] w fun e w' => e = .returned (.bool true) ∧ Below w.heap.size w w' := by
  have HE := Lib.hid hE
  clear hE
  by_cases h : len0 ≤ 1048576
  · have hl : (len0 : Int) ≤ 1048576 := by omega
    have HD := Lib.hid (drawOrderFits_c a0 len0 cap0 z0 w w0)
    clear h w0
    go_enter Tryz.func4, Tryz.ntmps4
    go_wp2_with fail
    refine HD.out.mono ?_
    rintro e W1 ⟨sl, cs, rfl, ho, hl22, hs66, hB⟩
    obtain ⟨a, cap, rfl, hn⟩ := cmds_of_own ho
    have HBL := Lib.hid hB
    have HCL := Lib.hid hl22
    have HSS := Lib.hid hs66
    have HN := Lib.hid hn
    have HE1 := Lib.hid (HE.out.keep hB)
    obtain ⟨ov, hov⟩ : ∃ ov, orderV cs = ov := ⟨_, rfl⟩
    have HOV := Lib.hid hov
    have HI := Lib.hid (show Calls Tryz.prog 9 #[.slice a cs.length cap] W1 (BoolPost ov W1) by rw [← hov]; exact implOrderFits_c a cs.length cap cs (by omega) (hs66.mono (by omega)) W1 hn)
    have HS := Lib.hid (fun W' (hb : Below W1.heap.size W1 W') => show Calls Tryz.prog 11 #[.slice a cs.length cap] W' (BoolPost ov W') by rw [← hov]; exact specOrderFits_c a cs.length cap cs (by omega) (hs66.mono (by omega)) W' (hn.keep hb))
    have hcl22 : (cs.length : Int) ≤ 22 := by omega
    clear ho hn hB hl22 hs66 hov
    go_wp2_with fail
    refine HI.out.mono ?_
    rintro e W2 ⟨rfl, hb2⟩
    have B2 := Lib.hid hb2
    clear hb2
    go_wp2_with fail
    refine (HS.out _ B2.out).mono ?_
    rintro e W3 ⟨rfl, hb3⟩
    have B3 := Lib.hid (below_next B2.out hb3)
    clear hb3
    cases ov with
    | false =>
      go_wp2
      go_ret
      exact ⟨rfl, below_next HBL.out B3.out⟩
    | true =>
      obtain ⟨hcn, -⟩ := order_all (ns := []) HOV.out
      have hul := sort_length (orderV_iff.1 HOV.out).1
      have HALL := Lib.hid (fun ns => (order_all (ns := ns) HOV.out).2)
      have HUS := Lib.hid (canon_short2 HSS.out hcn)
      obtain ⟨u, hu⟩ : ∃ u, sortK cs = u := ⟨_, rfl⟩
      rw [hu] at hcn hul HALL HUS
      have HUL := Lib.hid hul
      have HLC := Lib.hid (move_named hcn (logCanon_c a cs.length cap cs (by have := HCL.out; omega) (HSS.out.mono (by omega)) W3 (HN.out.keep B3.out)))
      clear hcn hul hu
      go_wp2_with fail
      refine HLC.out.mono ?_
      rintro e W5 ⟨s5, rfl, ho5, hb5⟩
      obtain ⟨x5, p5, rfl, hc5⟩ := cmds_of_own ho5
      have B5 := Lib.hid (below_next B3.out hb5)
      have HC5 := Lib.hid hc5
      clear ho5 hb5 hc5
      go_wp2_with fail
      go_loopw [8, 9] (fun t i wr => AllRel cs W5 t i wr) (fun _ i _ => cs.length - (intOf i).toNat)
      case atStart => exact ⟨0, 0, some ⟨W5.heap.size, 0, none⟩, [], rfl, Nat.zero_le _, rfl, Lib.hid (World.ownsRow_lit (e := 75) (size := 3) W5 #[] 0 (Nat.le_refl _) (by simp [maxLen]) rfl), Lib.hid ⟨rfl, fun n hn => by cases hn⟩, Lib.hid (below_box _ _)⟩
      case round =>
        obtain ⟨n, tc, ta, ns, rfl, hn, rfl, HT, HVT, HB⟩ := hrel
        by_cases hlt : n < cs.length
        · have hlt' : (n : Int) < cs.length := by omega
          have hw1 : IntKind.i64.wrap ((n : Int) + 1) = (n : Int) + 1 := IntWalk.i64_in _ (by omega)
          have HLT := Lib.hid hlt
          have HBX := Lib.hid (below_next B5.out HB.out)
          obtain ⟨b, off, c, rfl, hc, d0, d1, d2, d3, d4⟩ := (HN.out.keep HBX.out).node (i := n) hlt
          have HPS := Lib.hid (HSS.out.at hc)
          obtain ⟨p, fk, fv, tk, tv⟩ := c
          simp only at d0 d1 d2 d3 d4 HPS
          clear hn hlt hc
          by_cases hf : fk = 0
          · have hfe : (fk == 0) = true := by rw [hf]; rfl
            have hfn : (fk != 0) = false := by rw [hf]; rfl
            clear hf
            go_wp2
            go_roundw
            case rel => exact ⟨n + 1, tc, ta, ns, by go_num, HLT.out, rfl, HT, HVT, HB⟩
            case measure => have := HLT.out; simp [intOf]; omega
          · have hfe : (fk == 0) = false := beq_eq_false_iff_ne.2 hf
            have hfn : (fk != 0) = true := by rw [bne, hfe]; rfl
            have hol := ((validT_iff _).1 HVT.out.1).2.2
            obtain ⟨y, z, hyz, hNN⟩ := nodes_of_own HT.out
            injection hyz with e1 _ e3
            subst e1; subst e3
            have HTP := Lib.hid (implTreePut_c ta ns.length tc ns p fk fv (by omega) (HVT.out.2.mono (by omega)) (by have := HPS.out; omega) wr.drew (hNN.keep (Below.refl _ _).drew))
            have HTO := Lib.hid (show wr.drew.ownsRow W5.heap.size 75 3 (.slice ta ns.length tc) ns.length (flatN ns) from row_drew HT.out)
            have HBD := Lib.hid (show Below W5.heap.size W5 wr.drew from HB.out.drew)
            have HS0 := Lib.hid (show wr.drew.cell? ⟨b, off + n * 5, none⟩ = some (.string p) ∧ wr.drew.cell? ⟨b, off + n * 5 + 1, none⟩ = some (.int .i64 fk) ∧ wr.drew.cell? ⟨b, off + n * 5 + 2, none⟩ = some (.int .i64 fv) ∧ wr.drew.cell? ⟨b, off + n * 5 + 3, none⟩ = some (.int .i64 tk) ∧ wr.drew.cell? ⟨b, off + n * 5 + 4, none⟩ = some (.int .i64 tv) ∧ Below W5.heap.size W5 wr.drew from ⟨d0, d1, d2, d3, d4, HBD.out⟩)
            unfold con at HTP
            clear hf hNN
            go_upto_region 14 with (fail)
            clear d0 d1 d2 d3 d4
            go_region_held3 (fun w' => w'.cell? ⟨b, off + n * 5, none⟩ = some (.string p) ∧ w'.cell? ⟨b, off + n * 5 + 1, none⟩ = some (.int .i64 fk) ∧ w'.cell? ⟨b, off + n * 5 + 2, none⟩ = some (.int .i64 fv) ∧ w'.cell? ⟨b, off + n * 5 + 3, none⟩ = some (.int .i64 tk) ∧ w'.cell? ⟨b, off + n * 5 + 4, none⟩ = some (.int .i64 tv) ∧ Below W5.heap.size W5 w')
              (first | exact HS0.out | exact HS6.out)
              (first | (go_at_call 12; (with_reducible refine HTP.out.mono ?_); rintro e W6 ⟨s6, out6, b6, rfl, hc6, ho6, hb6⟩; have HO6 := Lib.hid (own_below HTO.out hb6); have HO66 := Lib.hid ho6; have HC6 := Lib.hid hc6; have HH := HS0.out; have HS6 := Lib.hid (show W6.cell? ⟨b, off + n * 5, none⟩ = some (.string p) ∧ W6.cell? ⟨b, off + n * 5 + 1, none⟩ = some (.int .i64 fk) ∧ W6.cell? ⟨b, off + n * 5 + 2, none⟩ = some (.int .i64 fv) ∧ W6.cell? ⟨b, off + n * 5 + 3, none⟩ = some (.int .i64 tk) ∧ W6.cell? ⟨b, off + n * 5 + 4, none⟩ = some (.int .i64 tv) ∧ Below W5.heap.size W5 W6 from ⟨cell_kept hb6 HH.1, cell_kept hb6 HH.2.1, cell_kept hb6 HH.2.2.1, cell_kept hb6 HH.2.2.2.1, cell_kept hb6 HH.2.2.2.2.1, below_next HBD.out hb6⟩); clear hb6 ho6 hc6 HH))
            have HB6 := Lib.hid HS6.out.2.2.2.2.2
            cases b6 with
            | false =>
              go_wp2
              go_roundw
              case rel => exact ⟨n + 1, tc, ta, ns, by go_num, HLT.out, rfl, HO6, HVT, HB6⟩
              case measure => have := HLT.out; simp [intOf]; omega
            | true =>
              have hr6 : treePut ns p fk fv = some out6 := by
                rcases HC6.out with ⟨_, h⟩ | ⟨h, _⟩
                · exact h
                · cases h
              have HV6 := Lib.hid (show validT out6 = true ∧ Short 66 out6 from ⟨(treePut_some hr6).2.2.2.2, by rw [(treePut_some hr6).2.2.2.1]; exact short_put HVT.out.2 HPS.out⟩)
              obtain ⟨a6, c6, rfl, -⟩ := nodes_of_own HO66.out
              have HOW6 := Lib.hid (own_mono HO66.out (show W5.heap.size ≤ wr.drew.heap.size from HB.out.size))
              clear hr6 HC6
              go_wp2
              go_roundw
              case rel => exact ⟨n + 1, c6, a6, out6, by go_num, HLT.out, rfl, HOW6, HV6, HB6⟩
              case measure => have := HLT.out; simp [intOf]; omega
        · have hge : (cs.length : Int) ≤ n := by omega
          obtain ⟨y, z, hyz, hNN⟩ := nodes_of_own HT.out
          injection hyz with e1 _ e3
          subst e1; subst e3
          have HNN := Lib.hid hNN
          have hol := ((validT_iff _).1 HVT.out.1).2.2
          have HBX := Lib.hid (below_next B5.out HB.out)
          have HE2 := Lib.hid (HE1.out.keep HBX.out)
          have HNL := Lib.hid hol
          obtain ⟨vf, hvf⟩ : ∃ vf, fitsL ns u = vf := ⟨_, rfl⟩
          have HVF := Lib.hid hvf
          have HF := Lib.hid (show Calls Tryz.prog 6 #[.slice ta ns.length tc, .slice x5 u.length p5] wr (BoolPost vf wr) by rw [← hvf]; exact implLogFits_c ta ns.length tc ns x5 u.length p5 u (by omega) (by have := HUL.out; have := HCL.out; omega) (HVT.out.2.mono (by omega)) (HUS.out.mono (by omega)) wr hNN (HC5.out.keep HB.out) HE2.out)
          have hnl : (ns.length : Int) ≤ 10 := by omega
          have hnw : IntKind.i64.wrap ((ns.length : Int) + cs.length) = (ns.length : Int) + cs.length := IntWalk.i64_in _ (by omega)
          clear hn hlt hNN hvf
          go_wp2_with fail
          refine HF.out.mono ?_
          rintro e W7 ⟨rfl, hb7⟩
          have B7 := Lib.hid hb7
          clear hb7
          cases vf with
          | false =>
            go_wp2
            go_ret
            exact ⟨rfl, below_next HBL.out (below_next HBX.out B7.out)⟩
          | true =>
            by_cases h10 : ns.length + cs.length ≤ 10
            · have h10' : ¬ ((10 : Int) < (ns.length : Int) + cs.length) := by omega
              obtain ⟨h1, h2⟩ := HALL.out ns HVF.out h10
              obtain ⟨x, hx⟩ : ∃ x, (logApply ns u).1 = x := ⟨_, rfl⟩
              have hap : logApply ns u = (x, (u.length : Int)) := by rw [← hx, ← h2]
              have hap2 : logApply ns cs = (x, (cs.length : Int)) := by rw [h1, hx]
              have HF2 := Lib.hid (log_facts hap HVT.out.2 HUS.out)
              have HL1 := Lib.hid (fun W' (hb : Below wr.heap.size wr W') => log_named hap (implLogApply_c ta ns.length tc ns x5 u.length p5 u (by have := HNL.out; omega) (by have := HUL.out; have := HCL.out; omega) (HVT.out.2.mono (by omega)) (HUS.out.mono (by omega)) W' (HNN.out.keep hb) ((HC5.out.keep HB.out).keep hb) (HE2.out.keep hb)))
              have HL2 := Lib.hid (fun W' (hb : Below wr.heap.size wr W') => log_named hap2 (implLogApply_c ta ns.length tc ns a cs.length cap cs (by have := HNL.out; omega) (by have := HCL.out; omega) (HVT.out.2.mono (by omega)) (HSS.out.mono (by omega)) W' (HNN.out.keep hb) ((HN.out.keep HBX.out).keep hb) (HE2.out.keep hb)))
              have heq : ((cs.length : Int) == cs.length) = true := by simp
              clear h10 h1 h2 hx hap hap2
              go_wp2_with fail
              refine (HL1.out _ B7.out).mono ?_
              rintro e W8 ⟨s8, rfl, ho8, hb8⟩
              obtain ⟨x8, p8, rfl, hn8⟩ := nodes_of_own ho8
              have B8 := Lib.hid (below_next B7.out hb8)
              have HN8 := Lib.hid hn8
              clear ho8 hn8 hb8
              go_wp2_with fail
              refine (HL2.out _ B8.out).mono ?_
              rintro e W9 ⟨s9, rfl, ho9, hb9⟩
              obtain ⟨x9, p9, rfl, hn9⟩ := nodes_of_own ho9
              have B9 := Lib.hid (below_next B8.out hb9)
              have HSM := Lib.hid (sameNodes_c x8 x9 x.length p8 p9 x (by have := HF2.out.1; omega) W9 (HN8.out.keep hb9) hn9)
              clear ho9 hn9 hb9
              go_wp2_with fail
              refine HSM.out.mono ?_
              rintro e W10 ⟨rfl, hb10⟩
              go_wp2
              go_ret
              exact ⟨rfl, below_next HBL.out (below_next HBX.out (below_next B9.out hb10))⟩
            · have h10' : (10 : Int) < (ns.length : Int) + cs.length := by omega
              clear h10
              go_wp2
              go_ret
              exact ⟨rfl, below_next HBL.out (below_next HBX.out B7.out)⟩
  · have hl : (1048576 : Int) < len0 := by omega
    clear h w0
    go_enter Tryz.func4, Tryz.ntmps4
    go_wp2
    go_ret
    exact ⟨rfl, Below.refl _ _⟩


set_option maxRecDepth 100000 in
/-- What the walk gives, for every argument and every world that holds the listed variables. -/
theorem contract (H : Type) (enc : TypeId × Value → H) (W : World) (base : Nat) (args : Array Value) (ds gs : List (DataW H)) (before : List MemPlace)
    (hval0 : ∀ (j : Nat) t v, Tryz.f4.params[j]? = some t → args[j]? = some v → Value.okWide Tryz.prog W .any base t v)
    (hW : DataW.Whole enc Tryz.prog Tryz.f4.params.toList Rows.fnOrderAllSpec.vars false W args.toList ds gs before) (hL : laidMetH Tryz.prog Rows.fnOrderAllRow.laid W) (hsh : W.ShapedOpen Tryz.prog) :
    Calls Tryz.prog 4 args W fun e W' => ∃ v, e = .returned v ∧ Rows.fnOrderAllSpec.post enc Tryz.prog Tryz.f4 false true false false W args v W' := by
  have hval : ∀ (j : Nat) t v, Tryz.f4.params[j]? = some t → args[j]? = some v → Value.okWide Tryz.prog W .any base t v := hval0
  have hW' := hW
  obtain ⟨p, q, hA0, hV, rfl, hfz, hnd⟩ := hW
  have hA : DataW.TrodAll enc Tryz.prog W 0 (fun _ => true) true Tryz.f4.params.toList args.toList ds p := hA0
  rw [Tryz.params4] at hA hval
  obtain ⟨v0, vs0, d0, ds0, p0, q0, hargs, rfl, rfl, h0, r0⟩ := trodAll_cons hA
  obtain ⟨rfl, rfl, rfl⟩ := trodAll_nil r0
  obtain rfl : args = #[v0] := by cases args; simp_all
  obtain ⟨_, _, _, _, e0, _, _, _, _, _, e1, _, rfl, -⟩ := trodVars_two hV
  obtain ⟨a0, len0, cap0, rfl⟩ := okWide_slice Tryz.underlying22 (hval 0 22 v0 rfl rfl)
  have k0 := h0
  have lt0 : ∀ x ∈ p0, x.block < W.heap.size := by obtain ⟨m, hm⟩ := k0; exact DataW.trod_lt m _ _ _ hm
  obtain ⟨z0, w0⟩ : ∃ zs, IsRow .u8 W a0 len0 cap0 zs := by
    obtain ⟨fuel, hf⟩ := h0
    rcases open_ints Tryz.underlying22 Tryz.underlying5 (by kernel_rfl) hf with ⟨hcs, _⟩ | ⟨x, l, c, zs, hcs, _, hl, hm, hz, _, hcell, hwz⟩
    · simp [Value.cells] at hcs
      obtain ⟨rfl, rfl, rfl⟩ := hcs
      exact ⟨[], .inl ⟨rfl, rfl, rfl, rfl⟩⟩
    · simp [Value.cells] at hcs
      obtain ⟨rfl, rfl, rfl⟩ := hcs
      exact ⟨zs, .inr ⟨_, rfl, hl, hm, by simpa using hz, hcell, hwz⟩⟩
  clear hA0 hval0
  refine (walk a0 len0 cap0 z0 W w0 (cmdVars_of hL (by kernel_rfl) (by kernel_rfl) (by kernel_rfl))).mono fun e W' ⟨he, bel⟩ => ?_
  subst he
  exact ⟨_, rfl, _, _, _, [], _, _, hW', trodAll_mk1 (shut_bool Tryz.underlying4 _), (trodAll_cons_mk (Below.trod laidOut (by kernel_rfl) (of_decide_eq_true (by kernel_rfl)) k0 bel lt0) trodAll_mk0), Below.trodVars laidOut bel (by kernel_rfl) hV, bel.frame _, fun h => by cases h⟩

theorem laid_met (os : Os) : laidMet Tryz.prog Rows.fnOrderAllRow.laid ((World.laidAll Tryz.prog os Rows.fnOrderAllRow.laid).forCall (fun _ _ => 0) ⟨#[], #[.slice none 0 0], []⟩).memory :=
  laidMet_laidAll _ (by kernel_rfl) (by kernel_rfl)
theorem reads (os : Os) {H : Type} (enc : TypeId × Value → H) : ∃ x, DataW.whole enc Tryz.prog ((World.laidAll Tryz.prog os Rows.fnOrderAllRow.laid).forCall (fun _ _ => 0) ⟨#[], #[.slice none 0 0], []⟩).memory Tryz.f4.params.toList Rows.fnOrderAllSpec.vars false #[Value.slice none 0 0].toList 8 = some x :=
  Option.isSome_iff_exists.1 (by kernel_rfl)

set_option maxRecDepth 100000 in
theorem lifted (os : Os) (started : os.Started) (H : Type) (enc : TypeId × Value → H) (F : Stop.Interp) :
    ReturnsInHanded {} Tryz.checked os 4 .any ((OpenSpec.ofChange Rows.fnOrderAllSpec).preRow enc Tryz.prog Tryz.f4 Rows.fnOrderAllRow.domain false Rows.fnOrderAllRow.laid) (((OpenSpec.ofChange Rows.fnOrderAllSpec).at F).post enc Tryz.prog Tryz.f4 false true false false) := by
  obtain ⟨x, hx⟩ := reads os enc
  refine returnsInHanded_of_row (C := Tryz.checked) (s := OpenSpec.ofChange Rows.fnOrderAllSpec) own started (by kernel_rfl) Tryz.func4
    (witness_row_atRef (enc := enc) (C := Tryz.checked) false (World.laidAll Tryz.prog os Rows.fnOrderAllRow.laid) #[.slice none 0 0] rfl (by kernel_rfl) (by kernel_rfl) (by kernel_rfl)
      (OpenSpec.preRow_of_cond 8 hx (by kernel_rfl) (fun k hk => by cases hk) (by kernel_rfl) (laid_met os))) ?_
  intro W base args ds gs before hval hW _ _ _ hL hsh _
  exact contract H enc W base args ds gs before hval hW hL hsh

theorem said : Rows.FnOrderAllSaid :=
  OpenClaim.holds_of_cond 4 Tryz.f4 rfl rfl rfl rfl rfl rfl rfl ⟨rfl, rfl, rfl, rfl, rfl⟩ rfl rfl rfl rfl rfl (by kernel_rfl) Tryz.func4 (by kernel_rfl)
    (of_decide_eq_true (by kernel_rfl)) (by unfold Func.isWrapper; first | (rw [if_pos (by decide +kernel)]; kernel_rfl) | (rw [if_neg (by decide +kernel)]; exact ⟨rfl, rfl⟩))
    (fun os started H enc _ F => by rw [OpenClaim.pre_eq_preRow]; exact lifted os started H enc F)

/-- No parameter wants a stand-in; the program's own looks: what the card asks. -/
theorem plain (f : FuncId) (fn : Func) (hf : Tryz.pinned.checked.prog.funcNamed Rows.fnOrderAllRow.func = some f) (hfn : Tryz.pinned.checked.prog.funcs[f]? = some fn) :
    true = Tryz.pinned.checked.prog.looks [] ∧ ∀ (j : Nat) t, fn.params[j]? = some t → Tryz.pinned.checked.prog.wantsStandIn t = false := by
  obtain rfl : f = 4 := Option.some.inj ((show Tryz.prog.funcNamed Rows.fnOrderAllRow.func = some 4 by kernel_rfl).symm.trans hf) |>.symm
  obtain rfl : fn = Tryz.f4 := (Option.some.inj (Tryz.func4.symm.trans hfn)).symm
  refine ⟨by kernel_rfl, fun j t ht => ?_⟩
  rw [Tryz.params4] at ht
  have hm := Array.mem_of_getElem? ht
  simp at hm
  rcases hm with rfl
  · exact (show Tryz.prog.wantsStandIn 22 = false by kernel_rfl)

/-- THE CARD. -/
theorem card : Rows.FnOrderAllCardSaid :=
  Claim7.holds_tied_plain_at .later [] _ _ _ _ said (fun _ h => by cases h) (by kernel_rfl) (fun _ h => by cases h) fnOrderAll_row_tie rfl ⟨rfl, rfl⟩ (by kernel_rfl) rfl plain (by kernel_rfl)
end Go.Proofs.YtpjoahddbdmbpaaGreatDoor.fnOrderAll
