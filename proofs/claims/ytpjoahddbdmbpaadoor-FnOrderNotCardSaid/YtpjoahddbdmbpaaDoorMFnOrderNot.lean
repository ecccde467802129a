/-
  laws.FnOrderNot returns true for every input, and leaves its arguments as they were.
  Conditions: none of ours; the package-level variables that its row lists hold what the program's text lays (the given tie).
-/
import Derived.Test.YtpjoahddbdmbpaaDoorRows
import Derived.Test.YtpjoahddbdmbpaaDoorCards
import Derived.Test.YtpjoahddbdmbpaaDoorTie
import Derived.WalkKit
import Derived.ProofKit
import Derived.OpenShut
import Derived.ShutString
import Derived.ChangeOld
import Derived.Below
import Derived.Deep.DeepHandedRow
import Derived.Deep.DeepWitnessRowRef
import Derived.Lib.LaidTab
import Derived.LaidMore
import Derived.OpenVars
import Derived.Lay
import Derived.Test.YtpjoahddbdmbpaaDoorQ7
import Derived.Test.YtpjoahddbdmbpaaDoorQ8
import Derived.Test.YtpjoahddbdmbpaaDoorQ6
import Derived.Test.YtpjoahddbdmbpaaDoorQ3
namespace Go.Proofs.YtpjoahddbdmbpaaDoor.fnOrderNot
open Go.ChangeShapes Go.WideShapes Go.ChangeAt Go.RowKit
open Go.ChangeMaps (open_string shut_string)
set_option linter.unusedVariables false

theorem own : ownKnob Tryd.prog.godebug = none := by kernel_rfl
theorem laidOut : laidOutB Tryd.prog = true := by kernel_rfl

theorem paths_no {cs : List Cmd} {i k : Nat} {c d : Cmd} (hc : cs[i]? = some c) (hd : cs[k]? = some d) (hk : k < i) (h : d.p = c.p) : orderV cs = false := by
  rw [Bool.eq_false_iff]
  intro hv
  have := (nodup_idx.1 (orderV_iff.1 hv).1) i c hc
  rw [first_no hd hk h] at this
  cases this
theorem paths_all {ns : List Nd} {cs : List Cmd} (hf : fitsL ns cs = true) (h : ∀ (i k : Nat) (c d : Cmd), k < i → cs[i]? = some c → cs[k]? = some d → d.p ≠ c.p) : orderV cs = true :=
  fits_order hf (nodup_idx.2 (fun j d hd => first_yes (fun k c hk hc => h j k d c hk hd hc)))

def NotRel (cs : List Cmd) (W1 : World) (i : Value) (wr : World) : Prop :=
  ∃ n : Nat, i = .int .i64 n ∧ n ≤ cs.length ∧ Hid (∀ (i k : Nat) (c d : Cmd), i < n → k < i → cs[i]? = some c → cs[k]? = some d → d.p ≠ c.p) ∧ Hid (Below W1.heap.size W1 wr)
def NotIn (cs : List Cmd) (W1 : World) (n : Nat) (c : Cmd) (k : Value) (wr : World) : Prop :=
  ∃ m : Nat, k = .int .i64 m ∧ m ≤ n ∧ Hid (∀ (k : Nat) (d : Cmd), k < m → cs[k]? = some d → d.p ≠ c.p) ∧ Hid (Below W1.heap.size W1 wr)

set_option maxHeartbeats 4000000 in
set_option maxRecDepth 100000 in
theorem walk (a0 : Option Addr) (len0 cap0 : Nat) (z0 : List Int) (w : World) (w0 : IsRow .u8 w a0 len0 cap0 z0) (hE : CmdVars w) :
    Calls Tryd.prog 3 #[.slice a0 len0 cap0] w fun e w' => e = .returned (.bool true) ∧ Below w.heap.size w w' := by
  have HE := Lib.hid hE
  clear hE
  by_cases h : len0 ≤ 1048576
  · have hl : (len0 : Int) ≤ 1048576 := by omega
    have HD := Lib.hid (drawLogFits_c a0 len0 cap0 z0 w w0)
    clear h w0
    go_enter Tryd.func3, Tryd.ntmps3
    go_wp2_with fail
    refine HD.out.mono ?_
    rintro e W1 ⟨sl, ns, sv, cs, rfl, hd, hoc, hcl, hcs⟩
    obtain ⟨a, cap, rfl, hn⟩ := nodes_of_own hd.1
    obtain ⟨ac, cc, rfl, hc⟩ := cmds_of_own hoc
    have HN := Lib.hid hn
    have HC := Lib.hid hc
    have hlen := hd.2.1
    have HL := Lib.hid hlen
    have hsh := hd.2.2.1.mono (show 64 ≤ 66 by omega)
    have HSH := Lib.hid hsh
    have HBL := Lib.hid hd.2.2.2
    have HE1 := Lib.hid (HE.out.keep hd.2.2.2)
    have HCL := Lib.hid hcl
    have HCS := Lib.hid hcs
    obtain ⟨vf, hvf⟩ : ∃ vf, fitsL ns cs = vf := ⟨_, rfl⟩
    have HI := Lib.hid (show Calls Tryd.prog 5 #[.slice a ns.length cap, .slice ac cs.length cc] W1 (BoolPost vf W1) by rw [← hvf]; exact implLogFits_c a ns.length cap ns ac cs.length cc cs (by omega) (by omega) (hsh.mono (by omega)) (hcs.mono (by omega)) W1 hn hc HE1.out)
    have HS := Lib.hid (fun W' (hb : Below W1.heap.size W1 W') => show Calls Tryd.prog 6 #[.slice a ns.length cap, .slice ac cs.length cc] W' (BoolPost vf W') by rw [← hvf]; exact specLogFits_c a ns.length cap ns ac cs.length cc cs (by omega) (by omega) (hsh.mono (by omega)) (hcs.mono (by omega)) W' (hn.keep hb) (hc.keep hb))
    have HVF := Lib.hid hvf
    have hcl21 : (cs.length : Int) ≤ 21 := by omega
    clear hn hc hd hoc hsh hcs hcl hlen hvf
    go_wp2_with fail
    refine HI.out.mono ?_
    rintro e W2 ⟨rfl, hb2⟩
    have B2 := Lib.hid hb2
    clear hb2
    go_wp2_with fail
    refine (HS.out _ B2.out).mono ?_
    rintro e W3 ⟨rfl, hb3⟩
    have B3 := Lib.hid (below_next B2.out hb3)
    clear hb3
    cases vf with
    | false =>
      go_wp2
      go_ret
      exact ⟨rfl, below_next HBL.out B3.out⟩
    | true =>
      have HOF := Lib.hid (fun W' (hb : Below W1.heap.size W1 W') => implOrderFits_c ac cs.length cc cs (by have := HCL.out; omega) (HCS.out.mono (by omega)) W' (HC.out.keep hb))
      obtain ⟨ov, hov⟩ : ∃ ov, orderV cs = ov := ⟨_, rfl⟩
      rw [hov] at HOF
      have HOV := Lib.hid hov
      clear hov
      go_wp2_with fail
      go_loopw [7, 8] (fun i _ wr => NotRel cs W1 i wr) (fun i _ _ => cs.length - (intOf i).toNat)
      case atStart => exact ⟨0, rfl, Nat.zero_le _, Lib.hid (fun i k c d h => absurd h (by omega)), B3⟩
      case round =>
        obtain ⟨n, rfl, hn, HP, HB⟩ := hrel
        by_cases hlt : n < cs.length
        · have hlt' : (n : Int) < cs.length := by omega
          have hw1 : IntKind.i64.wrap ((n : Int) + 1) = (n : Int) + 1 := IntWalk.i64_in _ (by omega)
          have HLT := Lib.hid hlt
          obtain ⟨x, hx⟩ : ∃ x, cs[n]? = some x := ⟨_, List.getElem?_eq_getElem hlt⟩
          have HX := Lib.hid hx
          clear hn hlt hx
          go_wp2_with fail
          go_loopw [8] (fun k wr => NotIn cs W1 n x k wr) (fun k _ => n - (intOf k).toNat)
          case atStart => exact ⟨0, rfl, Nat.zero_le _, Lib.hid (fun k d h => absurd h (by omega)), HB⟩
          case round =>
            obtain ⟨m, rfl, hm, HQ, HBI⟩ := hrel
            by_cases hmt : m < n
            · have hmt' : (m : Int) < n := by omega
              have hml : (m : Int) < cs.length := by omega
              have hwm : IntKind.i64.wrap ((m : Int) + 1) = (m : Int) + 1 := IntWalk.i64_in _ (by omega)
              have HMT := Lib.hid hmt
              obtain ⟨b, off, c, rfl, hc, d0, -⟩ := (HC.out.keep HBI.out).node (i := n) HLT.out
              obtain rfl : c = x := by rw [HX.out] at hc; exact (Option.some.inj hc).symm
              obtain ⟨b', off', d, hbb, hd, e0, -⟩ := (HC.out.keep HBI.out).node (i := m) (by have := HLT.out; omega)
              cases hbb
              have HD := Lib.hid hd
              have HB2 : Hid (Below W1.heap.size W1 wr.drew) := HBI.out.drew
              by_cases hp : d.p = c.p
              · have heq : (d.p.toList == c.p.toList) = true := by rw [hp]; simp
                obtain rfl : ov = false := HOV.out.symm.trans (paths_no HX.out HD.out hmt hp)
                have HO9 := Lib.hid (HOF.out _ HB2.out)
                clear hm hmt hc hd hp
                go_upto_region 14 with (fail)
                go_region
                all_goals
                  go_wp2_with fail
                  refine HO9.out.mono ?_
                  rintro e W9 ⟨rfl, hb9⟩
                  go_wp2
                  go_ret
                  exact ⟨rfl, below_next HBL.out (below_next HB2.out hb9)⟩
              · have heq : (d.p.toList == c.p.toList) = false := toList_ne hp
                have HNE := Lib.hid hp
                clear hm hmt hc hd hp
                go_upto_region 14 with (fail)
                go_region
                all_goals
                  go_wp2
                  go_roundw
                  case rel =>
                    refine ⟨m + 1, by go_num, HMT.out, Lib.hid (fun k y hk hy => ?_), HB2⟩
                    by_cases h : k < m
                    · exact HQ.out k y h hy
                    · obtain rfl : k = m := by omega
                      rw [HD.out] at hy
                      obtain rfl := Option.some.inj hy
                      exact HNE.out
                  case measure => have := HMT.out; simp [intOf]; omega
            · have hge : (n : Int) ≤ m := by omega
              have hmn : m = n := by omega
              subst hmn
              clear hm hmt
              go_wp2
              go_roundw
              case rel =>
                refine ⟨m + 1, by go_num, HLT.out, Lib.hid (fun i k c d hi hk hc hd => ?_), HBI⟩
                by_cases h : i < m
                · exact HP.out i k c d h hk hc hd
                · obtain rfl : i = m := by omega
                  rw [HX.out] at hc
                  obtain rfl := Option.some.inj hc
                  exact HQ.out k d hk hd
              case measure => have := HLT.out; simp [intOf]; omega
        · have hge : (cs.length : Int) ≤ n := by omega
          obtain rfl : ov = true := HOV.out.symm.trans (paths_all HVF.out (fun i k c d hk hc hd => HP.out i k c d (by have := (List.getElem?_eq_some_iff.1 hc).1; omega) hk hc hd))
          have HO9 := Lib.hid (HOF.out _ HB.out)
          clear hn hlt
          go_wp2_with fail
          refine HO9.out.mono ?_
          rintro e W9 ⟨rfl, hb9⟩
          go_wp2
          go_ret
          exact ⟨rfl, below_next HBL.out (below_next HB.out hb9)⟩
  · have hl : (1048576 : Int) < len0 := by omega
    clear h w0
    go_enter Tryd.func3, Tryd.ntmps3
    go_wp2
    go_ret
    exact ⟨rfl, Below.refl _ _⟩


set_option maxRecDepth 100000 in
/-- What the walk gives, for every argument and every world that holds the listed variables. -/
theorem contract (H : Type) (enc : TypeId × Value → H) (W : World) (base : Nat) (args : Array Value) (ds gs : List (DataW H)) (before : List MemPlace)
    (hval0 : ∀ (j : Nat) t v, Tryd.f3.params[j]? = some t → args[j]? = some v → Value.okWide Tryd.prog W .any base t v)
    (hW : DataW.Whole enc Tryd.prog Tryd.f3.params.toList Rows.fnOrderNotSpec.vars false W args.toList ds gs before) (hL : laidMetH Tryd.prog Rows.fnOrderNotRow.laid W) (hsh : W.ShapedOpen Tryd.prog) :
    Calls Tryd.prog 3 args W fun e W' => ∃ v, e = .returned v ∧ Rows.fnOrderNotSpec.post enc Tryd.prog Tryd.f3 false true false false W args v W' := by
  have hval : ∀ (j : Nat) t v, Tryd.f3.params[j]? = some t → args[j]? = some v → Value.okWide Tryd.prog W .any base t v := hval0
  have hW' := hW
  obtain ⟨p, q, hA0, hV, rfl, hfz, hnd⟩ := hW
  have hA : DataW.TrodAll enc Tryd.prog W 0 (fun _ => true) true Tryd.f3.params.toList args.toList ds p := hA0
  rw [Tryd.params3] at hA hval
  obtain ⟨v0, vs0, d0, ds0, p0, q0, hargs, rfl, rfl, h0, r0⟩ := trodAll_cons hA
  obtain ⟨rfl, rfl, rfl⟩ := trodAll_nil r0
  obtain rfl : args = #[v0] := by cases args; simp_all
  obtain ⟨_, _, _, _, e0, _, _, _, _, _, e1, _, rfl, -⟩ := trodVars_two hV
  obtain ⟨a0, len0, cap0, rfl⟩ := okWide_slice Tryd.underlying22 (hval 0 22 v0 rfl rfl)
  have k0 := h0
  have lt0 : ∀ x ∈ p0, x.block < W.heap.size := by obtain ⟨m, hm⟩ := k0; exact DataW.trod_lt m _ _ _ hm
  obtain ⟨z0, w0⟩ : ∃ zs, IsRow .u8 W a0 len0 cap0 zs := by
    obtain ⟨fuel, hf⟩ := h0
    rcases open_ints Tryd.underlying22 Tryd.underlying5 (by kernel_rfl) hf with ⟨hcs, _⟩ | ⟨x, l, c, zs, hcs, _, hl, hm, hz, _, hcell, hwz⟩
    · simp [Value.cells] at hcs
      obtain ⟨rfl, rfl, rfl⟩ := hcs
      exact ⟨[], .inl ⟨rfl, rfl, rfl, rfl⟩⟩
    · simp [Value.cells] at hcs
      obtain ⟨rfl, rfl, rfl⟩ := hcs
      exact ⟨zs, .inr ⟨_, rfl, hl, hm, by simpa using hz, hcell, hwz⟩⟩
  clear hA0 hval0
  refine (walk a0 len0 cap0 z0 W w0 (cmdVars_of hL (by kernel_rfl) (by kernel_rfl) (by kernel_rfl))).mono fun e W' ⟨he, bel⟩ => ?_
  subst he
  exact ⟨_, rfl, _, _, _, [], _, _, hW', trodAll_mk1 (shut_bool Tryd.underlying4 _), (trodAll_cons_mk (Below.trod laidOut (by kernel_rfl) (of_decide_eq_true (by kernel_rfl)) k0 bel lt0) trodAll_mk0), Below.trodVars laidOut bel (by kernel_rfl) hV, bel.frame _, fun h => by cases h⟩

theorem laid_met (os : Os) : laidMet Tryd.prog Rows.fnOrderNotRow.laid ((World.laidAll Tryd.prog os Rows.fnOrderNotRow.laid).forCall (fun _ _ => 0) ⟨#[], #[.slice none 0 0], []⟩).memory :=
  laidMet_laidAll _ (by kernel_rfl) (by kernel_rfl)
theorem reads (os : Os) {H : Type} (enc : TypeId × Value → H) : ∃ x, DataW.whole enc Tryd.prog ((World.laidAll Tryd.prog os Rows.fnOrderNotRow.laid).forCall (fun _ _ => 0) ⟨#[], #[.slice none 0 0], []⟩).memory Tryd.f3.params.toList Rows.fnOrderNotSpec.vars false #[Value.slice none 0 0].toList 8 = some x :=
  Option.isSome_iff_exists.1 (by kernel_rfl)

set_option maxRecDepth 100000 in
theorem lifted (os : Os) (started : os.Started) (H : Type) (enc : TypeId × Value → H) (F : Stop.Interp) :
    ReturnsInHanded {} Tryd.checked os 3 .any ((OpenSpec.ofChange Rows.fnOrderNotSpec).preRow enc Tryd.prog Tryd.f3 Rows.fnOrderNotRow.domain false Rows.fnOrderNotRow.laid) (((OpenSpec.ofChange Rows.fnOrderNotSpec).at F).post enc Tryd.prog Tryd.f3 false true false false) := by
  obtain ⟨x, hx⟩ := reads os enc
  refine returnsInHanded_of_row (C := Tryd.checked) (s := OpenSpec.ofChange Rows.fnOrderNotSpec) own started (by kernel_rfl) Tryd.func3
    (witness_row_atRef (enc := enc) (C := Tryd.checked) false (World.laidAll Tryd.prog os Rows.fnOrderNotRow.laid) #[.slice none 0 0] rfl (by kernel_rfl) (by kernel_rfl) (by kernel_rfl)
      (OpenSpec.preRow_of_cond 8 hx (by kernel_rfl) (fun k hk => by cases hk) (by kernel_rfl) (laid_met os))) ?_
  intro W base args ds gs before hval hW _ _ _ hL hsh _
  exact contract H enc W base args ds gs before hval hW hL hsh

theorem said : Rows.FnOrderNotSaid :=
  OpenClaim.holds_of_cond 3 Tryd.f3 rfl rfl rfl rfl rfl rfl rfl ⟨rfl, rfl, rfl, rfl, rfl⟩ rfl rfl rfl rfl rfl (by kernel_rfl) Tryd.func3 (by kernel_rfl)
    (of_decide_eq_true (by kernel_rfl)) (by unfold Func.isWrapper; first | (rw [if_pos (by decide +kernel)]; kernel_rfl) | (rw [if_neg (by decide +kernel)]; exact ⟨rfl, rfl⟩))
    (fun os started H enc _ F => by rw [OpenClaim.pre_eq_preRow]; exact lifted os started H enc F)

/-- No parameter wants a stand-in; the program's own looks: what the card asks. -/
theorem plain (f : FuncId) (fn : Func) (hf : Tryd.pinned.checked.prog.funcNamed Rows.fnOrderNotRow.func = some f) (hfn : Tryd.pinned.checked.prog.funcs[f]? = some fn) :
    true = Tryd.pinned.checked.prog.looks [] ∧ ∀ (j : Nat) t, fn.params[j]? = some t → Tryd.pinned.checked.prog.wantsStandIn t = false := by
  obtain rfl : f = 3 := Option.some.inj ((show Tryd.prog.funcNamed Rows.fnOrderNotRow.func = some 3 by kernel_rfl).symm.trans hf) |>.symm
  obtain rfl : fn = Tryd.f3 := (Option.some.inj (Tryd.func3.symm.trans hfn)).symm
  refine ⟨by kernel_rfl, fun j t ht => ?_⟩
  rw [Tryd.params3] at ht
  have hm := Array.mem_of_getElem? ht
  simp at hm
  rcases hm with rfl
  · exact (show Tryd.prog.wantsStandIn 22 = false by kernel_rfl)

/-- THE CARD. -/
theorem card : Rows.FnOrderNotCardSaid :=
  Claim7.holds_tied_plain_at .later [] _ _ _ _ said (fun _ h => by cases h) (by kernel_rfl) (fun _ h => by cases h) fnOrderNot_row_tie rfl ⟨rfl, rfl⟩ (by kernel_rfl) rfl plain (by kernel_rfl)
end Go.Proofs.YtpjoahddbdmbpaaDoor.fnOrderNot
