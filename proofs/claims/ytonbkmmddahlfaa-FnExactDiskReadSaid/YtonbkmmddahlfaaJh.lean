/-
  WALKS: the program's shelf: at, write, sync, rename, crash, list.
-/
import Derived.Test.YtonbkmmddahlfaaJg
namespace Go.Proofs.Ytonbkmmddahlfaa
open Go.RowKit
set_option linter.unusedVariables false

theorem jh_first : (0 : Nat) ≤ 0 := Nat.le_refl 0

/-- What 'at' tells. -/
def AtPostJ (d : Nat) (fs : List Bl) (n : Int) (W : World) (e : Ending) (w' : World) : Prop :=
  ((∃ (k : Nat) (x : Bl), k < 3 ∧ n = (k : Int) + 1 ∧ fs[k]? = some x ∧ x.n = n ∧ e = .returned (.pointer (some ⟨d, 2 + k * 3, none⟩))) ∨
    ((∀ (k : Nat) (x : Bl), n = (k : Int) + 1 → fs[k]? = some x → x.n ≠ n) ∧ e = .returned (.pointer none))) ∧ w' = W

set_option maxHeartbeats 2000000 in
set_option maxRecDepth 100000 in
theorem at_cJ (d : Nat) (m : Int) (fs : List Bl) (n : Int) (W : World) (h : ShelfAt W d m fs) : Calls Try.prog 57 #[.pointer (some ⟨d, 2, none⟩), .int .i64 n] W (AtPostJ d fs n W) := by
  obtain ⟨vs, hd⟩ := h
  obtain ⟨p, hp⟩ : ∃ p, decide (1 ≤ n ∧ n ≤ 3) = p := ⟨_, rfl⟩
  have HI := Lib.hid (fun w => show Calls Try.prog 53 #[.int .i64 n] w (fun e w' => e = .returned (.bool p) ∧ w' = w) by rw [← hp]; exact isFileName_c n w)
  have HF := Lib.hid hd.1
  cases p with
  | false =>
    have HN := Lib.hid (show ∀ (k : Nat) (x : Bl), n = (k : Int) + 1 → fs[k]? = some x → x.n ≠ n by
      intro k x h1 h2
      have := (List.getElem?_eq_some_iff.1 h2).1
      have h3 := HF.out
      have h4 := of_decide_eq_false hp
      omega)
    clear hp hd
    go_enter Try.func57, Try.ntmps57
    go_wp2_with fail
    refine (HI.out _).mono ?_
    rintro e W1 ⟨rfl, rfl⟩
    go_wp2
    go_ret
    exact ⟨.inr ⟨HN.out, rfl⟩, rfl⟩
  | true =>
    have hp' := of_decide_eq_true hp
    obtain ⟨k, rfl⟩ : ∃ k : Nat, n = (k : Int) + 1 := ⟨(n - 1).toNat, by omega⟩
    have hk : k < 3 := by omega
    obtain ⟨x, hx⟩ : ∃ x, fs[k]? = some x := ⟨_, List.getElem?_eq_getElem (by have := HF.out; omega)⟩
    obtain ⟨a1, c1, a2, c2, e0, -, -, -, -, -, -⟩ := hd.cells hx
    have HX := Lib.hid hx
    have HK := Lib.hid hk
    have hk0 : (0 : Int) ≤ k := by omega
    have hk3 : (k : Int) < 3 := by omega
    have hw : IntKind.i64.wrap ((k : Int) + 1 - 1) = k := (IntWalk.i64_in _ (by omega)).trans (by omega)
    by_cases hn : x.n = (k : Int) + 1
    · have hy : (x.n != (k : Int) + 1) = false := by simp [hn]
      have HN := Lib.hid hn
      obtain ⟨xn, hxn⟩ : ∃ y, x.n = y := ⟨_, rfl⟩
      rw [hxn] at e0 hy
      clear hp hd hx hp' hn hxn hk
      go_enter Try.func57, Try.ntmps57
      go_wp2_with fail
      refine (HI.out _).mono ?_
      rintro e W1 ⟨rfl, rfl⟩
      go_wp2
      go_ret
      exact ⟨.inl ⟨k, x, HK.out, rfl, HX.out, HN.out, rfl⟩, rfl⟩
    · have hy : (x.n != (k : Int) + 1) = true := by simp [hn]
      have HN := Lib.hid (show ∀ (j : Nat) (y : Bl), (k : Int) + 1 = (j : Int) + 1 → fs[j]? = some y → y.n ≠ (k : Int) + 1 by
        intro j y h1 h2
        obtain rfl : j = k := by omega
        rw [hx] at h2
        cases h2
        exact hn)
      obtain ⟨xn, hxn⟩ : ∃ y, x.n = y := ⟨_, rfl⟩
      rw [hxn] at e0 hy
      clear hp hd hx hp' hn hxn hk
      go_enter Try.func57, Try.ntmps57
      go_wp2_with fail
      refine (HI.out _).mono ?_
      rintro e W1 ⟨rfl, rfl⟩
      go_wp2
      go_ret
      exact ⟨.inr ⟨HN.out, rfl⟩, rfl⟩

/-- What a step on a shelf tells: it is a disk's again, or it fails. -/
def StepPost (d : Nat) (m : Int) (r : Option (List Bl)) (W : World) (e : Ending) (w' : World) : Prop :=
  ∃ (ok : Bool) (fs : List Bl), e = .returned (.bool ok) ∧ ShelfAt w' d m fs ∧ ((ok = true ∧ ∃ F, GoodF F ∧ fs = plcJ F ∧ r = some (ofF F)) ∨ (ok = false ∧ r = none)) ∧ Below d W w'
theorem step_no {d : Nat} {m : Int} {fs : List Bl} {r : Option (List Bl)} {W w' : World} (h : ShelfAt w' d m fs) (hr : r = none) (hb : Below d W w') : StepPost d m r W (.returned (.bool false)) w' := ⟨false, fs, rfl, h, .inr ⟨rfl, hr⟩, hb⟩
theorem step_yes {d : Nat} {m : Int} {F : Fs} {fs : List Bl} {r : Option (List Bl)} {W w' : World} (h : ShelfAt w' d m fs) (hg : GoodF F) (hf : fs = plcJ F) (hr : r = some (ofF F)) (hb : Below d W w') : StepPost d m r W (.returned (.bool true)) w' := ⟨true, fs, rfl, h, .inl ⟨rfl, F, hg, hf, hr⟩, hb⟩

theorem writeB_pl {F : Fs} (h : GoodF F) (k : Int) (zs : List Int) : writeB (ofF F) k zs = ⟨k, (pl F k).s, (pl F k).f ++ zs⟩ := by
  rw [writeB_F h]
  unfold pl zeroB
  cases F k <;> rfl
theorem below_le {m n : Nat} {W W' : World} (h : Below n W W') (hm : m ≤ n) : Below m W W' := h.mono hm

set_option maxHeartbeats 2000000 in
set_option maxRecDepth 100000 in
theorem write_cJ (d : Nat) (m : Int) (F : Fs) (hG : GoodF F) (n : Int) (ab : Option Addr) (cb : Nat) (zs : List Int) (hz : zs.length ≤ 2000000) (W : World) (h : ShelfAt W d m (plcJ F)) (hb : LsAt W (.slice ab zs.length cb) zs) :
    Calls Try.prog 44 #[.pointer (some ⟨d, 2, none⟩), .int .i64 n, .slice ab zs.length cb] W (StepPost d m (diskWrite (ofF F) n zs) W) := by
  obtain ⟨p, hp⟩ : ∃ p, decide (1 ≤ n ∧ n ≤ 3) = p := ⟨_, rfl⟩
  have HI := Lib.hid (fun w => show Calls Try.prog 53 #[.int .i64 n] w (fun e w' => e = .returned (.bool p) ∧ w' = w) by rw [← hp]; exact isFileName_c n w)
  cases p with
  | false =>
    have HR := Lib.hid (show diskWrite (ofF F) n zs = none by
      rw [write_F hG, if_neg]
      intro hc
      have := ((blOk_iff _).1 hc).1
      exact of_decide_eq_false hp this)
    have HS := Lib.hid h
    clear hp hb h
    go_enter Try.func44, Try.ntmps44
    go_wp2_with fail
    refine (HI.out _).mono ?_
    rintro e W1 ⟨rfl, rfl⟩
    go_wp2
    go_ret
    exact step_no HS.out HR.out (Below.refl _ _)
  | true =>
    have hp' := of_decide_eq_true hp
    obtain ⟨k, rfl⟩ : ∃ k : Nat, n = (k : Int) + 1 := ⟨(n - 1).toNat, by omega⟩
    have hk : k < 3 := by omega
    obtain ⟨vs, hd⟩ := h
    have hx := plc_get F hk
    have hok := pl_ok hG ((k : Int) + 1)
    have hwr := writeB_pl hG ((k : Int) + 1) zs
    have hwF := write_F hG ((k : Int) + 1) zs
    rw [hwr] at hwF
    have hset := plc_set F hk (some ⟨(k : Int) + 1, (pl F ((k : Int) + 1)).s, (pl F ((k : Int) + 1)).f ++ zs⟩)
    have hgood := fun hb => write_good (b := ⟨(k : Int) + 1, (pl F ((k : Int) + 1)).s, (pl F ((k : Int) + 1)).f ++ zs⟩) hG (k := (k : Int) + 1) rfl hb
    generalize pl F ((k : Int) + 1) = x at hx hok hwF hset hgood
    obtain ⟨g, hg⟩ : ∃ g, x.f ++ zs = g := ⟨_, rfl⟩
    have hgl : g.length ≤ 2097152 := by rw [← hg, List.length_append]; omega
    rw [hg] at hwF hset hgood
    have HGL := Lib.hid hgl
    have HGG := Lib.hid hg
    have HZ := Lib.hid hz
    obtain ⟨a1, c1, a2, c2, e0, e1, e2, l1, l2, v1, v2⟩ := hd.cells hx
    have HX := Lib.hid hx
    have HWF := Lib.hid hwF
    have HSET := Lib.hid hset
    have HGD := Lib.hid hgood
    have HD1 := Lib.hid (hd.put0 hx ((k : Int) + 1))
    have f0 := hd.frozen (2 + k * 3)
    have f2 := hd.frozen (2 + k * 3 + 2)
    have e2' : (W.setCell ⟨d, 2 + k * 3, none⟩ (.int .i64 ((k : Int) + 1))).cell? ⟨d, 2 + k * 3 + 2, none⟩ = some (.slice a2 x.f.length c2) := by rw [World.cell?_setCell_other _ _ _ _ (by simp)]; exact e2
    have hk0 : (0 : Int) ≤ k := by omega
    have hk3 : (k : Int) < 3 := by omega
    have hw : IntKind.i64.wrap ((k : Int) + 1 - 1) = k := (IntWalk.i64_in _ (by omega)).trans (by omega)
    have HOK := Lib.hid hok
    have HBY := Lib.hid (hb.kept (hd.keptSet (2 + k * 3) (.int .i64 ((k : Int) + 1))))
    have HFR := Lib.hid (l2.kept (hd.keptSet (2 + k * 3) (.int .i64 ((k : Int) + 1))))
    have HSF := Lib.hid (l1.kept (hd.keptSet (2 + k * 3) (.int .i64 ((k : Int) + 1))))
    have HLT := Lib.hid hd.lt
    have hW1 := hd.put0 hx ((k : Int) + 1)
    clear hp hp' hx hwr hwF hset hgood hok l1 l2 v1 v2 hb e1 hd hW1 hk hg hgl hz
    obtain ⟨xf, hxf⟩ : ∃ l, x.f.length = l := ⟨_, rfl⟩
    obtain ⟨zl, hzl⟩ : ∃ l, zs.length = l := ⟨_, rfl⟩
    rw [hxf] at e2 e2' HFR
    rw [hzl] at HBY ⊢
    clear hxf hzl
    go_enter Try.func44, Try.ntmps44
    go_wp2_with fail
    refine (HI.out _).mono ?_
    rintro e W1 ⟨rfl, rfl⟩
    go_wp2_with fail
    have HB1 := Lib.hid (below_setCell (Below.refl d W1) ⟨d, 2 + k * 3, none⟩ (.int .i64 ((k : Int) + 1)) (Nat.le_refl _))
    have hsz : (W1.setCell ⟨d, 2 + k * 3, none⟩ (.int .i64 ((k : Int) + 1))).heap.size = W1.heap.size := by simp [World.setCell]
    generalize W1.setCell ⟨d, 2 + k * 3, none⟩ (.int .i64 ((k : Int) + 1)) = X at HD1 HBY HFR HSF e2' HB1 hsz ⊢
    rw [← hsz]
    clear hsz
    have HBX := Lib.hid (below_box X (.cells #[.slice a2 xf c2, .slice ab zl cb] 29))
    refine (concat2_c X.heap.size 2 (.slice a2 xf c2) (.slice ab zl cb) x.f zs (by have := HOK.out; have := HZ.out; omega) _ (two_newJ X _ _ _) (HFR.out.keep HBX.out) (HBY.out.keep HBX.out)).mono ?_
    rintro e W3 ⟨ho3, hb3⟩
    rw [HGG.out] at ho3
    obtain ⟨s3, rfl, ho3⟩ := ho3
    have hl3 := ls_of_own ho3
    obtain ⟨a7, c7, rfl, -⟩ := ints_of_own ho3
    have hD3 := HD1.out.keep (below_next HBX.out hb3)
    have hx1 : ((plcJ F).set k ⟨(k : Int) + 1, x.s, x.f⟩)[k]? = some ⟨(k : Int) + 1, x.s, x.f⟩ := List.getElem?_set_self (by have := (List.getElem?_eq_some_iff.1 HX.out).1; exact this)
    obtain ⟨a1', c1', a2', c2', p0, p1, p2, -, -, -, -⟩ := hD3.cells hx1
    have y2 := hD3.frozen (2 + k * 3 + 2)
    have hD4 := hD3.put2 hx1 hl3
    rw [List.set_set] at hD4
    have hx4 : ((plcJ F).set k ⟨(k : Int) + 1, x.s, g⟩)[k]? = some ⟨(k : Int) + 1, x.s, g⟩ := List.getElem?_set_self (by have := (List.getElem?_eq_some_iff.1 HX.out).1; exact this)
    obtain ⟨a3, c3, a4, c4, q0, q1, q2, k1, k2, -, -⟩ := hD4.cells hx4
    have HB4 := Lib.hid (below_setCell (HB1.out.trans ((below_next HBX.out hb3).mono (Nat.le_of_lt HD1.out.lt))) ⟨d, 2 + k * 3 + 2, none⟩ (.slice a7 g.length c7) (Nat.le_refl _))
    have HK := Lib.hid (And.intro k1.ints k2.ints)
    have HD4 := Lib.hid hD4
    obtain ⟨gl, hgl⟩ : ∃ l, g.length = l := ⟨_, rfl⟩
    obtain ⟨xs, hxs⟩ : ∃ l, x.s.length = l := ⟨_, rfl⟩
    have HXS := Lib.hid (And.intro hgl hxs)
    simp only [hgl, hxs] at q0 q1 q2 HB4 HD4 ⊢
    clear ho3 hl3 hb3 hD3 hx1 p0 p1 hD4 hx4 k1 k2 e0 e2 f0 f2 e2' hgl hxs
    obtain ⟨q, hq⟩ : ∃ q, blOk ⟨(k : Int) + 1, x.s, g⟩ = q := ⟨_, rfl⟩
    have HQ := Lib.hid hq
    have HIF := Lib.hid (show Calls Try.prog 34 #[.agg #[.int .i64 ((k : Int) + 1), .slice a3 xs c3, .slice a4 gl c4]] (W3.setCell ⟨d, 2 + k * 3 + 2, none⟩ (.slice a7 gl c7)) (BoolPost q (W3.setCell ⟨d, 2 + k * 3 + 2, none⟩ (.slice a7 gl c7))) by
      obtain ⟨rfl, rfl⟩ := HXS.out
      rw [← hq]
      exact isFile_c _ a3 a4 c3 c4 x.s g (by have := HOK.out; omega) HGL.out _ HK.out.1.2.1 HK.out.2.2.1)
    clear hq
    go_wp2_with fail
    refine HIF.out.mono ?_
    rintro e W5 ⟨rfl, hb5⟩
    have HB5 := Lib.hid (HB4.out.trans (hb5.mono (Nat.le_of_lt HD4.out.lt)))
    have HD5 := Lib.hid (HD4.out.keep hb5)
    clear hb5 q0 q1 q2 p2 y2
    cases q with
    | false =>
      go_wp2
      go_ret
      exact step_no ⟨_, HD5.out⟩ (by rw [HWF.out, if_neg (by rw [HQ.out]; simp)]) HB5.out
    | true =>
      go_wp2
      go_ret
      exact step_yes ⟨_, HD5.out⟩ (HGD.out HQ.out) HSET.out (by rw [HWF.out, if_pos HQ.out]) HB5.out

theorem sync_pl {F : Fs} (h : GoodF F) {k : Nat} (hk : k < 3) {x : Bl} (hx : (plcJ F)[k]? = some x) (hn : x.n = (k : Int) + 1) :
    GoodF (updF F ((k : Int) + 1) (some ⟨x.n, x.s ++ x.f.take 400, []⟩)) ∧ (plcJ F).set k ⟨x.n, x.s ++ x.f.take 400, []⟩ = plcJ (updF F ((k : Int) + 1) (some ⟨x.n, x.s ++ x.f.take 400, []⟩)) ∧
      diskSync (ofF F) ((k : Int) + 1) = some (ofF (updF F ((k : Int) + 1) (some ⟨x.n, x.s ++ x.f.take 400, []⟩))) ∧ F ((k : Int) + 1) = some x := by
  rw [plc_get F hk] at hx
  obtain rfl := Option.some.inj hx
  obtain ⟨b, hb⟩ := (pl_some h ((k : Int) + 1) (by omega)).1 hn
  have e : pl F ((k : Int) + 1) = b := by unfold pl; rw [hb]; rfl
  rw [e] at hn ⊢
  have hok := ((blOk_iff _).1 (h _ b hb).2).2.2.2
  have ha : b.s ++ b.f.take 400 = allB b := by unfold allB; rw [List.take_of_length_le (by omega)]
  rw [ha, hn]
  refine ⟨sync_good h hb, plc_set F hk (some ⟨(k : Int) + 1, allB b, []⟩), ?_, hb⟩
  rw [sync_F h, hb]
  rfl
theorem no_pl {F : Fs} (h : GoodF F) {n : Int} (hn : ∀ (k : Nat) (x : Bl), n = (k : Int) + 1 → (plcJ F)[k]? = some x → x.n ≠ n) : F n = none := by
  cases e : F n with
  | none => rfl
  | some b =>
    obtain ⟨h1, h2⟩ := h n b e
    have h3 := ((blOk_iff _).1 h2).1
    have hk : (n - 1).toNat < 3 := by omega
    have h4 : (((n - 1).toNat : Nat) : Int) + 1 = n := by omega
    have := hn (n - 1).toNat (pl F n) (by omega) (by rw [plc_get F hk, h4])
    exact absurd (by unfold pl; rw [e]; exact h1) this

set_option maxHeartbeats 2000000 in
set_option maxRecDepth 100000 in
theorem sync_c (d : Nat) (m : Int) (F : Fs) (hG : GoodF F) (n : Int) (W : World) (h : ShelfAt W d m (plcJ F)) :
    Calls Try.prog 46 #[.pointer (some ⟨d, 2, none⟩), .int .i64 n] W (StepPost d m (diskSync (ofF F) n) W) := by
  have HA := Lib.hid (at_cJ d m (plcJ F) n W h)
  have HG := Lib.hid hG
  obtain ⟨vs, hd⟩ := h
  have HD := Lib.hid hd
  have qn : ∀ (w : World) (a : Option Addr), (binOp .eql 79 (.pointer a) (.pointer none)).run Try.prog w = .ok (.bool a.isNone) w := fun w a => by cases a <;> rfl
  clear hd hG
  go_enter Try.func46, Try.ntmps46
  go_wp2_with fail
  refine HA.out.mono ?_
  rintro e W1 ⟨⟨k, x, hk, rfl, hx, hn, rfl⟩ | ⟨hno, rfl⟩, rfl⟩
  · obtain ⟨g1, g2, g3, g4⟩ := sync_pl HG.out hk hx hn
    have HGD := Lib.hid (And.intro g1 (And.intro g2 g3))
    obtain ⟨a1, c1, a2, c2, e0, e1, e2, l1, l2, -, -⟩ := HD.out.cells hx
    have hok := ((blOk_iff _).1 (HG.out _ x g4).2).2.2.2
    have HS := Lib.hid (settled_c x.n a1 a2 c1 c2 x.s x.f 400 (by omega) (by omega) W1 l1 l2)
    have HK := Lib.hid hk
    generalize hxn : x.n = xn at e0 HS HGD
    generalize hgg : x.s ++ x.f.take 400 = gg at HS HGD
    generalize hxs : x.s.length = xs at e1 HS
    generalize hxf : x.f.length = xf at e2 HS
    clear g1 g2 g3 g4 l1 l2 hok hx hn hk hxn hxs hxf hgg
    go_wp2_with fail
    refine HS.out.mono ?_
    rintro e W2 ⟨u, v, rfl, lu, lv, hb2⟩
    have hD2 := HD.out.keep hb2
    obtain ⟨y, hy⟩ : ∃ y, (plcJ F)[k]? = some y := ⟨_, List.getElem?_eq_getElem HK.out⟩
    obtain ⟨b1, d1, b2, d2, p0, p1, p2, -, -, -, -⟩ := hD2.cells hy
    have y0 := hD2.frozen (2 + k * 3)
    have y1 := hD2.frozen (2 + k * 3 + 1)
    have y2 := hD2.frozen (2 + k * 3 + 2)
    have HD3 := Lib.hid (hD2.put HK.out (y := ⟨xn, gg, []⟩) lu lv)
    have HB3 := Lib.hid (below_setCell (below_setCell (below_setCell (hb2.mono (Nat.le_of_lt HD.out.lt)) ⟨d, 2 + k * 3, none⟩ (.int .i64 xn) (Nat.le_refl _)) ⟨d, 2 + k * 3 + 1, none⟩ u (Nat.le_refl _)) ⟨d, 2 + k * 3 + 2, none⟩ v (Nat.le_refl _))
    obtain ⟨au, cu, rfl, -⟩ := lu.out
    obtain ⟨av, cv, rfl, -⟩ := lv.out
    clear lu lv hb2 hD2 hy e0 e1 e2
    simp only [List.length_nil] at HD3 HB3 ⊢
    generalize gg.length = gl at HD3 HB3 ⊢
    go_wp2
    go_ret
    exact step_yes ⟨_, HD3.out⟩ HGD.out.1 HGD.out.2.1 HGD.out.2.2 HB3.out
  · have HR := Lib.hid (show diskSync (ofF F) n = none by rw [sync_F HG.out, no_pl HG.out hno]; rfl)
    clear hno
    go_wp2
    go_ret
    exact step_no ⟨_, HD.out⟩ HR.out (Below.refl _ _)

end Go.Proofs.Ytonbkmmddahlfaa
