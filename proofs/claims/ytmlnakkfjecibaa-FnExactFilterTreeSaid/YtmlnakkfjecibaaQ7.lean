/-
  Texts of this proof, one behind the other: Zg, Zh.
-/
import Derived.Maps.AppendAt
import Derived.Deep.RegionHeld3
import Derived.Laws.StructEq
import Derived.Laws.EntriesVeiled
import Derived.Deep.QuietTactic
import Derived.Shelf.Abstract
import Derived.Test.YtmlnakkfjecibaaZeq
import Derived.Test.YtmlnakkfjecibaaQ5
import Derived.Test.YtmlnakkfjecibaaPd
import Derived.Test.YtmlnakkfjecibaaQ6
/-
  WALKS: filters of the program: impl.isWithin, touches, isPartOf, sift at commands and at nodes, siftLog, IgnoresValid, FilterKeep, FilterHold, FilterTree.
-/
namespace Go.Proofs.Ytmlnakkfjecibaa
open Go.RowKit
set_option linter.unusedVariables false

theorem zg_first : (0 : Nat) ≤ 0 := Nat.le_refl 0

/-- impl.isWithin. -/
def withinB (p q : ByteArray) : Bool := decide (p = q) || underB q p
/-- impl.touches. -/
def touchI (c : Cmd) (q : ByteArray) : Bool := withinB c.p q || (underB c.p q && !(c.tk == 1))
/-- impl.isPartOf. -/
def partI (n : Nd) (q : ByteArray) : Bool := withinB n.p q

theorem any_or2 {f g : ByteArray → Bool} : ∀ l : List ByteArray, l.any (fun q => f q || g q) = (l.any f || l.any g)
  | [] => rfl
  | a :: r => by
    rw [List.any_cons, List.any_cons, List.any_cons, any_or2 r]
    cases f a <;> cases g a <;> cases r.any f <;> cases r.any g <;> rfl
theorem any_ext2 {f g : ByteArray → Bool} {l : List ByteArray} (h : ∀ q ∈ l, f q = g q) : l.any f = l.any g := by
  rw [Bool.eq_iff_iff, List.any_eq_true, List.any_eq_true]
  constructor
  · rintro ⟨q, hq, e⟩; exact ⟨q, hq, by rw [← h q hq]; exact e⟩
  · rintro ⟨q, hq, e⟩; exact ⟨q, hq, by rw [h q hq]; exact e⟩
theorem within_any {igs : List ByteArray} (hi : igV igs = true) {p : ByteArray} (hp : vpB p = true) : igs.any (withinB p) = inB igs p := by
  unfold inB
  refine any_ext2 (fun q hq => ?_)
  unfold withinB
  rw [l1u_und (igV_at hi hq) hp]
  congr 1
  by_cases h : p = q
  · rw [decide_eq_true h, decide_eq_true h.symm]
  · rw [decide_eq_false h, decide_eq_false (fun e => h e.symm)]
theorem touch_any {igs : List ByteArray} (hi : igV igs = true) {c : Cmd} (hc : validC c = true) : igs.any (touchI c) = touchL igs c := by
  have e1 : igs.any (touchI c) = (igs.any (withinB c.p) || igs.any (overI c)) := by
    rw [← any_or2]
    refine any_ext2 (fun q hq => ?_)
    unfold touchI overI
    rw [l1u_und (validC_vp hc) (igV_at hi hq)]
    rfl
  rw [e1, within_any hi (validC_vp hc), Bool.or_comm]
  rfl
theorem keep_impl {cs : List Cmd} {igs : List ByteArray} (hv : validL cs = true) (hi : igV igs = true) : cs.filter (fun c => !igs.any (touchI c)) = keepL cs igs ∧ cs.filter (fun c => igs.any (touchI c)) = holdL cs igs := by
  rw [keep_ok hv hi, hold_ok hv hi]
  constructor
  · refine List.filter_congr (fun c hc => ?_)
    rw [touch_any hi (((validL_iff cs).1 hv).1 c hc)]
  · refine List.filter_congr (fun c hc => ?_)
    rw [touch_any hi (((validL_iff cs).1 hv).1 c hc)]
theorem filt_impl {ns : List Nd} {igs : List ByteArray} (hv : validT ns = true) (hi : igV igs = true) : ns.filter (fun n => !igs.any (partI n)) = filtT ns igs := by
  rw [filt_ok hv hi]
  refine List.filter_congr (fun n hn => ?_)
  have := within_any hi (good_path hv hn).2
  unfold partI
  rw [show (fun q => withinB n.p q) = withinB n.p from rfl, this]
theorem keep_bad {cs : List Cmd} {igs : List ByteArray} (h : validL cs = false ∨ igV igs = false) : keepL cs igs = [] ∧ holdL cs igs = [] := by
  unfold keepL holdL
  rcases h with h | h <;> rw [h] <;> simp
theorem filt_bad {ns : List Nd} {igs : List ByteArray} (h : validT ns = false ∨ igV igs = false) : filtT ns igs = [] := by
  unfold filtT
  rcases h with h | h <;> rw [h] <;> simp
theorem igV_impl (igs : List ByteArray) : igV igs = (!decide (4 < igs.length) && !igs.any (fun q => decide (depB q ≤ 0))) := by
  unfold igV
  rw [Bool.and_comm]
  congr 1
  · by_cases h : igs.length ≤ 4
    · rw [decide_eq_true h, decide_eq_false (by omega)]; rfl
    · rw [decide_eq_false h, decide_eq_true (by omega)]; rfl
  · rw [Bool.eq_iff_iff, List.all_eq_true, Bool.not_eq_true', List.any_eq_false]
    constructor
    · intro k q hq e
      have h1 := of_decide_eq_true (k q hq)
      have h2 := of_decide_eq_true e
      omega
    · intro k q hq
      refine decide_eq_true ?_
      have := k q hq
      rw [decide_eq_true_eq] at this
      omega

set_option maxHeartbeats 1000000 in
set_option maxRecDepth 100000 in
theorem isWithin_c (p q : ByteArray) (hp : p.size ≤ 2097152) (hq : q.size ≤ 2097152) (W : World) : Calls Try.prog 89 #[.string p, .string q] W (BoolPost (withinB p q) W) := by
  obtain ⟨u, hu⟩ : ∃ u, underB q p = u := ⟨_, rfl⟩
  obtain ⟨y, hy⟩ : ∃ y, (p.toList == q.toList) = y := ⟨_, rfl⟩
  have HU := Lib.hid (fun w => show Calls Try.prog 16 #[.string q, .string p] w (fun e w' => e = .returned (.bool u) ∧ Below w.heap.size w w') by rw [← hu]; exact pathUnder_c q p hq hp w)
  have HR := Lib.hid (show withinB p q = (y || u) by unfold withinB; rw [inB_step, hy, hu])
  clear hu hp hq
  go_enter Try.func89, Try.ntmps89
  cases y with
  | true =>
    go_wp2
    go_ret
    exact ⟨ret_bool (by rw [HR.out]; rfl), Below.refl _ _⟩
  | false =>
    go_wp2_with fail
    refine (HU.out _).mono ?_
    rintro e W1 ⟨rfl, hb1⟩
    have B1 := Lib.hid hb1
    clear hb1
    go_wp2
    go_ret
    exact ⟨ret_bool (by rw [HR.out]; rfl), B1.out⟩

set_option maxHeartbeats 1000000 in
set_option maxRecDepth 100000 in
theorem touches_c (c : Cmd) (q : ByteArray) (hp : c.p.size ≤ 2097152) (hq : q.size ≤ 2097152) (W : World) : Calls Try.prog 82 #[cmdV c, .string q] W (BoolPost (touchI c q) W) := by
  obtain ⟨y, hy⟩ : ∃ u, withinB c.p q = u := ⟨_, rfl⟩
  obtain ⟨u, hu⟩ : ∃ u, underB c.p q = u := ⟨_, rfl⟩
  obtain ⟨x, hx⟩ : ∃ x, (c.tk == 1) = x := ⟨_, rfl⟩
  have HY := Lib.hid (fun w => show Calls Try.prog 89 #[.string c.p, .string q] w (BoolPost y w) by rw [← hy]; exact isWithin_c c.p q hp hq w)
  have HU := Lib.hid (fun w => show Calls Try.prog 16 #[.string c.p, .string q] w (fun e w' => e = .returned (.bool u) ∧ Below w.heap.size w w') by rw [← hu]; exact pathUnder_c c.p q hp hq w)
  have HR := Lib.hid (show touchI c q = (y || (u && !x)) by unfold touchI; rw [hy, hu, hx])
  have HBX := Lib.hid (below_box W (.cells #[.string c.p, .int .i64 c.fk, .int .i64 c.fv, .int .i64 c.tk, .int .i64 c.tv] 32))
  have HC := Lib.hid (five_new W (.string c.p) (.int .i64 c.fk) (.int .i64 c.fv) (.int .i64 c.tk) (.int .i64 c.tv) 32)
  clear hu hy hp hq
  obtain ⟨p, fk, fv, tk, tv⟩ := c
  unfold cmdV
  simp only at HY HU HR HBX HC hx ⊢
  have hxn : (tk != 1) = !x := by rw [bne, hx]
  go_enter Try.func82, Try.ntmps82
  go_wp2_with fail
  refine (HY.out _).mono ?_
  rintro e W1 ⟨rfl, hb1⟩
  have B1 := Lib.hid (below_next HBX.out hb1)
  have C1 := Lib.hid (HC.out.below hb1)
  clear hb1
  obtain ⟨c0, c1, c2, c3, c4, -⟩ := C1.out
  cases y with
  | true =>
    go_wp2
    go_ret
    exact ⟨ret_bool (by rw [HR.out]; rfl), B1.out⟩
  | false =>
    go_wp2_with fail
    refine (HU.out _).mono ?_
    rintro e W2 ⟨rfl, hb2⟩
    have B2 := Lib.hid (below_next B1.out hb2)
    have C2 := Lib.hid (C1.out.below hb2)
    clear hb2 c0 c1 c2 c3 c4
    obtain ⟨c0, c1, c2, c3, c4, -⟩ := C2.out
    cases u with
    | false =>
      go_wp2
      go_ret
      exact ⟨ret_bool (by rw [HR.out]; rfl), B2.out⟩
    | true =>
      go_wp2
      go_ret
      exact ⟨ret_bool (by rw [HR.out]; rfl), B2.out⟩

set_option maxHeartbeats 1000000 in
set_option maxRecDepth 100000 in
theorem isPartOf_c (n : Nd) (q : ByteArray) (hp : n.p.size ≤ 2097152) (hq : q.size ≤ 2097152) (W : World) : Calls Try.prog 57 #[.agg #[.string n.p, .int .i64 n.k, .int .i64 n.v], .string q] W (BoolPost (partI n q) W) := by
  obtain ⟨y, hy⟩ : ∃ u, partI n q = u := ⟨_, rfl⟩
  have HY := Lib.hid (fun w => show Calls Try.prog 89 #[.string n.p, .string q] w (BoolPost y w) by rw [← hy]; exact isWithin_c n.p q hp hq w)
  have HBX := Lib.hid (below_box W (.cells #[.string n.p, .int .i64 n.k, .int .i64 n.v] 46))
  rw [hy]
  clear hy hp hq
  obtain ⟨p, k, v⟩ := n
  simp only at HY HBX ⊢
  go_enter Try.func57, Try.ntmps57
  go_wp2_with fail
  refine (HY.out _).mono ?_
  rintro e W1 ⟨rfl, hb1⟩
  have B1 := Lib.hid (below_next HBX.out hb1)
  clear hb1
  go_wp2
  go_ret
  exact ⟨ret_bool rfl, B1.out⟩

/-- A rule of texts in memory: a function value that answers f of each text, in this world and in each that grows from it. -/
def RuleT (w : World) (v : Value) (f : ByteArray → Bool) : Prop :=
  ∃ (g : Nat) (lb : Array Value), v = .func (.func g) #[] lb ∧ (∀ args w', (callFunc g args).run Try.prog w' = .ok (.enter g args) w') ∧
    ∀ (q : ByteArray) (W : World), q.size ≤ 2097152 → Below w.heap.size w W → Calls Try.prog g (#[.string q] ++ lb) W (BoolPost (f q) W)

/-- What a search tells. -/
def IndexPostT (b : Bool) (W : World) (e : Ending) (w' : World) : Prop := ∃ i : Int, e = .returned (.int .i64 i) ∧ decide (0 ≤ i) = b ∧ Below W.heap.size W w'

set_option maxHeartbeats 2000000 in
set_option maxRecDepth 100000 in
theorem indexFuncT_c (a : Option Addr) (len cap : Nat) (cs : List ByteArray) (v : Value) (f : ByteArray → Bool) (hl : len ≤ 2097152) (hs : ShortX 2097152 cs) (W : World) (hN : TextsAt W a len cs) (hR : RuleT W v f) :
    Calls Try.prog 94 #[.slice a len cap, v] W (IndexPostT (cs.any f) W) := by
  obtain ⟨g, lb, rfl, eg, hP⟩ := hR
  have HN := Lib.hid hN
  have HE := Lib.hid hN.1
  have HS := Lib.hid hs
  have HP := Lib.hid hP
  have hl' : (len : Int) ≤ 2097152 := by omega
  clear hN hs hP
  go_enter Try.func94, Try.ntmps94
  go_wp2
  go_loopw [5, 8] (fun _ k wr => ∃ n : Nat, k = .int .i64 n ∧ n ≤ len ∧ Hid (∀ (j : Nat) (d : ByteArray), j < n → cs[j]? = some d → f d = false) ∧ Hid (Below W.heap.size W wr)) (fun _ k _ => len - (intOf k).toNat)
  case atStart => exact ⟨0, rfl, Nat.zero_le _, Lib.hid (fun j d h => absurd h (Nat.not_lt_zero _)), Lib.hid (Below.refl _ _)⟩
  case round =>
    obtain ⟨n, rfl, hn, HNO, HB⟩ := hrel
    by_cases hlt : n < len
    · have hlt' : (n : Int) < len := by omega
      have hw1 : IntKind.i64.wrap ((n : Int) + 1) = (n : Int) + 1 := IntWalk.i64_in _ (by omega)
      have HLT := Lib.hid hlt
      obtain ⟨b, off, d, rfl, hd, d0⟩ := (HN.out.keep HB.out).node hlt
      obtain ⟨q, hq⟩ : ∃ q, f d = q := ⟨_, rfl⟩
      have HC := Lib.hid (fun w (hb : Below W.heap.size W w) => show Calls Try.prog g (#[.string d] ++ lb) w (BoolPost q w) by rw [← hq]; exact HP.out d w (HS.out.at hd) hb)
      have HD := Lib.hid (And.intro hd hq)
      clear hn hlt hd hq
      go_wp2_with (go_at_fn g; refine (HC.out _ HB.out).mono ?_; rintro e W1 ⟨rfl, hb1⟩; have B1 := Lib.hid (below_next HB.out hb1); clear hb1 d0; cases q)
      · go_wp2
        go_roundw
        case rel => exact ⟨n + 1, by go_num, HLT.out, textAny_next HNO.out HD.out.1 HD.out.2, B1⟩
        case measure => have := HLT.out; simp [intOf]; omega
      · have hn0 : (0 : Int) ≤ n := by omega
        go_wp2
        go_ret
        exact ⟨n, rfl, by rw [textAny_at HD.out.1 HD.out.2]; exact decide_eq_true hn0, B1.out⟩
    · have hge : (len : Int) ≤ n := by omega
      have HX := Lib.hid (textAny_none (f := f) (cs := cs) (fun j d hd => HNO.out j d (by have := (List.getElem?_eq_some_iff.1 hd).1; have := HE.out; omega) hd))
      clear hn hlt
      go_wp2
      go_ret
      exact ⟨-1, rfl, by rw [HX.out]; rfl, HB.out⟩

set_option maxHeartbeats 2000000 in
set_option maxRecDepth 100000 in
theorem containsFuncT_c (a : Option Addr) (len cap : Nat) (cs : List ByteArray) (v : Value) (f : ByteArray → Bool) (hl : len ≤ 2097152) (hs : ShortX 2097152 cs) (W : World) (hN : TextsAt W a len cs) (hR : RuleT W v f) :
    Calls Try.prog 65 #[.slice a len cap, v] W (BoolPost (cs.any f) W) := by
  have HI := Lib.hid (indexFuncT_c a len cap cs v f hl hs W hN hR)
  obtain ⟨g, lb, rfl, -⟩ := hR
  clear hN hs hl
  go_enter Try.func65, Try.ntmps65
  go_wp2_with fail
  refine HI.out.mono ?_
  rintro e W1 ⟨i, rfl, hi, hb⟩
  have B1 := Lib.hid hb
  have HX := Lib.hid hi
  clear hb hi
  go_wp2
  go_ret
  exact ⟨ret_bool HX.out, B1.out⟩

set_option maxHeartbeats 1000000 in
set_option maxRecDepth 100000 in
theorem ignores1_c (q : ByteArray) (hq : q.size ≤ 2097152) (W : World) : Calls Try.prog 66 #[.string q] W (BoolPost (decide (depB q ≤ 0)) W) := by
  obtain ⟨dp, hdp⟩ : ∃ dp, depB q = dp := ⟨_, rfl⟩
  have HD := Lib.hid (fun w => show Calls Try.prog 51 #[.string q] w (fun e w' => e = .returned (.int .i64 dp) ∧ Below w.heap.size w w') by rw [← hdp]; exact pathDepth_c q (by omega) w)
  rw [hdp]
  clear hdp hq
  go_enter Try.func66, Try.ntmps66
  go_wp2_with fail
  refine (HD.out _).mono ?_
  rintro e W1 ⟨rfl, hb1⟩
  have B1 := Lib.hid hb1
  clear hb1
  go_wp2
  go_ret
  exact ⟨ret_bool rfl, B1.out⟩
theorem ignores1_rule (W : World) : RuleT W (.func (.func 66) #[] #[]) (fun q => decide (depB q ≤ 0)) :=
  ⟨_, _, rfl, enters_of Try.func66 (by kernel_rfl) rfl, fun q W' hq _ => ignores1_c q hq W'⟩

set_option maxHeartbeats 1000000 in
set_option maxRecDepth 100000 in
theorem implIgnores_c (a : Option Addr) (len cap : Nat) (igs : List ByteArray) (hl : len ≤ 2097152) (hs : ShortX 2097152 igs) (W : World) (hN : TextsAt W a len igs) :
    Calls Try.prog 29 #[.slice a len cap] W (BoolPost (igV igs) W) := by
  obtain ⟨y, hy⟩ : ∃ y, igs.any (fun q => decide (depB q ≤ 0)) = y := ⟨_, rfl⟩
  have HF := Lib.hid (fun w (hb : Below W.heap.size W w) => show Calls Try.prog 65 #[.slice a len cap, .func (.func 66) #[] #[]] w (BoolPost y w) by rw [← hy]; exact containsFuncT_c a len cap igs _ _ hl hs w (hN.keep hb) (ignores1_rule w))
  have HR := Lib.hid (show igV igs = (!decide (4 < len) && !y) by rw [igV_impl, hN.1, hy])
  clear hy hN hs
  by_cases h4 : 4 < len
  · have h4' : (4 : Int) < len := by omega
    have HX := Lib.hid (show igV igs = false by rw [HR.out, decide_eq_true h4]; rfl)
    clear hl h4
    go_enter Try.func29, Try.ntmps29
    go_wp2
    go_ret
    exact ⟨ret_bool HX.out.symm, Below.refl _ _⟩
  · have h4' : (len : Int) ≤ 4 := by omega
    have HX := Lib.hid (show igV igs = !y by rw [HR.out, decide_eq_false h4]; rfl)
    clear hl h4
    go_enter Try.func29, Try.ntmps29
    go_wp2_with fail
    refine (HF.out _ (Below.refl _ _)).mono ?_
    rintro e W1 ⟨rfl, hb1⟩
    have B1 := Lib.hid hb1
    clear hb1
    go_wp2
    go_ret
    exact ⟨ret_bool HX.out.symm, B1.out⟩

end Go.Proofs.Ytmlnakkfjecibaa

/-
  WALKS: filters of the program, second part: impl.sift at commands and at nodes, siftLog, FilterKeep, FilterHold, FilterTree.
-/
namespace Go.Proofs.Ytmlnakkfjecibaa
open Go.RowKit
set_option linter.unusedVariables false

/-- Two values lie in different blocks. -/
def ApartV (o h : Value) : Prop := ∀ k, o.ownBlock = some k → h.ownBlock ≠ some k
theorem apart_turn {o h : Value} (a : ApartV o h) : ApartV h o := fun k e1 e2 => a k e2 e1
theorem sift_far {W W' : World} {b : Nat} {e : TypeId} {size n : Nat} {v : Value} {xs : List Value} (h : W.ownsRow b e size v n xs) {row : Value} (hg : W.grownBy W' row.ownBlock) (hd : ∀ k, v.ownBlock = some k → row.ownBlock ≠ some k) : W'.ownsRow b e size v n xs := by
  refine h.kept hg ?_
  cases hv : v.ownBlock with
  | none => exact .inl rfl
  | some k => right; exact fun e => hd k hv e.symm
theorem sift_apart {o h v : Value} {n : Nat} (a : ApartV o h) (hat : v.ownBlock = o.ownBlock ∨ v.ownBlock = some n) (hl : ∀ k, h.ownBlock = some k → k < n) : ApartV v h := by
  intro k e1 e2
  rcases hat with e | e
  · rw [e] at e1; exact a k e1 e2
  · rw [e] at e1
    obtain rfl := Option.some.inj e1
    exact absurd (hl _ e2) (Nat.lt_irrefl _)
theorem flatN_lengthX (ns : List Nd) : (flatN ns).length = ns.length * 3 := by
  induction ns with
  | nil => rfl
  | cons c r ih =>
    have : flatN (c :: r) = [.string c.p, .int .i64 c.k, .int .i64 c.v] ++ flatN r := rfl
    rw [this, List.length_append, ih]
    simp; omega
theorem flatN_appendX (a b : List Nd) : flatN (a ++ b) = flatN a ++ flatN b := by unfold flatN; rw [List.flatMap_append]

/-- A cell of a block of one cell. -/
theorem one_cellX (W : World) (v : Value) (t : TypeId) : (W.alloc (.cells #[v] t)).cell? ⟨W.heap.size, 0, none⟩ = some v := by rw [World.cell?_alloc_new]; rfl

/-- A test of an item with a text: a function value without captured variables. -/
def MeetsC (v : Value) (m : Cmd → ByteArray → Bool) : Prop :=
  ∃ g : Nat, v = .func (.func g) #[] #[] ∧ (∀ args w', (callFunc g args).run Try.prog w' = .ok (.enter g args) w') ∧ ∀ (c : Cmd) (q : ByteArray) (W : World), c.p.size ≤ 2097152 → q.size ≤ 2097152 → Calls Try.prog g #[cmdV c, .string q] W (BoolPost (m c q) W)

/-- append(v, x) of one item, and where the result lies. -/
theorem wpList_append_oneC {w : World} {ops : Array Oper} {rest : List Oper} {o : Oper} {a : Act} {Q : Exit → Act → World → Prop} (hgd : o.guard = none) (s x : Operand)
    (ho : o.op = .call { callee := .builtin .append, args := #[s, x], argTypes := #[23, 23] })
    (base : Nat) (v : Value) (acc : List Cmd) (hs : a.eval s = v) (hown : w.ownsRow base 32 5 v acc.length (flatC acc))
    (ad : Addr) (cap : Nat) (z : Cmd) (hx : a.eval x = .slice (some ad) 1 cap) (hi : CmdsAt w (some ad) 1 [z]) (hlen : acc.length ≤ 2097152) (hb : base ≤ w.heap.size)
    (h : ∀ v3 w3, w3.ownsRow base 32 5 v3 (acc ++ [z]).length (flatC (acc ++ [z])) → w.grownBy w3 v.ownBlock → (v3.ownBlock = v.ownBlock ∨ v3.ownBlock = some w.heap.size) → wpList Try.prog ops Q rest (a.put o.dst v3) w3) : wpList Try.prog ops Q (o :: rest) a w := by
  obtain ⟨i0, hi0, hz0, hz1, hz2⟩ := info_parts infoCmd
  refine wpList_append_own_at w hgd s x 23 ho base 32 i0 (.agg #[.string ⟨#[]⟩, .int .i64 0, .int .i64 0, .int .i64 0, .int .i64 0]) 5 48 Try.underlying23 hi0 hz0 hz1 hz2 rfl (by decide) v acc.length (flatC acc) hs hown ad 1 cap (flatC [z]) hx (by rw [flatC_length]; rfl) (cmds_cells hi) (flatC_cell1 _) (by unfold maxLen; omega) (by omega) hb ?_
  intro v3 w3 h1 h2 _ h4
  exact h v3 w3 (by rw [flatC_append, List.length_append]; exact h1) h2 h4

set_option maxHeartbeats 1000000 in
set_option maxRecDepth 100000 in
theorem sift1C_call (v : Value) (m : Cmd → ByteArray → Bool) (hM : MeetsC v m) (c : Cmd) (q : ByteArray) (hc : c.p.size ≤ 2097152) (hq : q.size ≤ 2097152) (W0 : World) (B1 B2 : Nat) (h : W0.cell? ⟨B1, 0, none⟩ = some v) (d0 : W0.cell? ⟨B2, 0, none⟩ = some (.string c.p)) (d1 : W0.cell? ⟨B2, 1, none⟩ = some (.int .i64 c.fk)) (d2 : W0.cell? ⟨B2, 2, none⟩ = some (.int .i64 c.fv)) (d3 : W0.cell? ⟨B2, 3, none⟩ = some (.int .i64 c.tk)) (d4 : W0.cell? ⟨B2, 4, none⟩ = some (.int .i64 c.tv)) :
    Calls Try.prog 104 #[.string q, .pointer (some ⟨B1, 0, none⟩), .pointer (some ⟨B2, 0, none⟩)] W0 (BoolPost (m c q) W0) := by
  obtain ⟨g, rfl, eg, hP⟩ := hM
  obtain ⟨y, hy⟩ : ∃ y, m c q = y := ⟨_, rfl⟩
  have HP := Lib.hid (fun w => show Calls Try.prog g #[cmdV c, .string q] w (BoolPost y w) by rw [← hy]; exact hP c q w hc hq)
  rw [hy]
  clear hP hy hc hq
  obtain ⟨p, fk, fv, tk, tv⟩ := c
  unfold cmdV at HP
  simp only at HP d0 d1 d2 d3 d4
  go_enter Try.func104, Try.ntmps104
  go_wp2_with (go_at_fn g; refine (HP.out _).mono ?_; rintro e W1 ⟨rfl, hb1⟩; have B1 := Lib.hid hb1; clear hb1 d0 d1 d2 d3 d4)
  go_ret
  exact ⟨ret_bool rfl, B1.out⟩
theorem sift1C_rule (v : Value) (m : Cmd → ByteArray → Bool) (hM : MeetsC v m) (c : Cmd) (hc : c.p.size ≤ 2097152) (W0 : World) (B1 B2 : Nat) (h : W0.cell? ⟨B1, 0, none⟩ = some v) (d0 : W0.cell? ⟨B2, 0, none⟩ = some (.string c.p)) (d1 : W0.cell? ⟨B2, 1, none⟩ = some (.int .i64 c.fk)) (d2 : W0.cell? ⟨B2, 2, none⟩ = some (.int .i64 c.fv)) (d3 : W0.cell? ⟨B2, 3, none⟩ = some (.int .i64 c.tk)) (d4 : W0.cell? ⟨B2, 4, none⟩ = some (.int .i64 c.tv)) :
    RuleT W0 (.func (.func 104) #[] #[.pointer (some ⟨B1, 0, none⟩), .pointer (some ⟨B2, 0, none⟩)]) (m c) :=
  ⟨_, _, rfl, enters_of Try.func104 (by kernel_rfl) rfl, fun q W hq hW => sift1C_call v m hM c q hc hq W B1 B2 (cell_kept hW h) (cell_kept hW d0) (cell_kept hW d1) (cell_kept hW d2) (cell_kept hW d3) (cell_kept hW d4)⟩

/-- What sift tells. -/
def SiftPostC (kept held : List Cmd) (W : World) (e : Ending) (w' : World) : Prop :=
  ∃ v1 v2, e = .returned (.tuple #[v1, v2]) ∧ w'.ownsRow W.heap.size 32 5 v1 kept.length (flatC kept) ∧ w'.ownsRow W.heap.size 32 5 v2 held.length (flatC held) ∧ Below W.heap.size W w'

/-- The loop of sift: both lists so far, each in a block of its own. -/
def TwoRelC (f : Cmd → Bool) (cs : List Cmd) (W : World) (o h k : Value) (wr : World) : Prop :=
  ∃ n : Nat, k = .int .i64 n ∧ n ≤ cs.length ∧ wr.ownsRow W.heap.size 32 5 o ((cs.take n).filter (fun c => !f c)).length (flatC ((cs.take n).filter (fun c => !f c))) ∧ wr.ownsRow W.heap.size 32 5 h ((cs.take n).filter f).length (flatC ((cs.take n).filter f)) ∧ Hid (ApartV o h) ∧ Hid (Below W.heap.size W wr)

set_option maxHeartbeats 4000000 in
set_option maxRecDepth 100000 in
theorem siftC_c (a1 : Option Addr) (len1 cap1 : Nat) (cs : List Cmd) (a2 : Option Addr) (len2 cap2 : Nat) (igs : List ByteArray) (v : Value) (m : Cmd → ByteArray → Bool) (hl1 : len1 ≤ 2000000) (hl2 : len2 ≤ 2000000) (hs1 : ShortC 2097152 cs) (hs2 : ShortX 2097152 igs) (W : World) (h1 : CmdsAt W a1 len1 cs) (h2 : TextsAt W a2 len2 igs) (hM : MeetsC v m) :
    Calls Try.prog 81 #[.slice a1 len1 cap1, .slice a2 len2 cap2, v] W (SiftPostC (cs.filter (fun c => !igs.any (m c))) (cs.filter (fun c => igs.any (m c))) W) := by
  obtain ⟨f, hf⟩ : ∃ f : Cmd → Bool, f = (fun c => igs.any (m c)) := ⟨_, rfl⟩
  have HF := Lib.hid (fun d => congrFun hf d)
  have hff : (fun c => !igs.any (m c)) = (fun c => !f c) := by rw [hf]
  rw [hff, ← hf]
  obtain ⟨g, hv, -⟩ := id hM
  have HM := Lib.hid hM
  have HBX := Lib.hid (below_box W (.cells #[v] 111))
  have HV0 := Lib.hid (one_cellX W v 111)
  have HN := Lib.hid (h1.keep HBX.out)
  have HE := Lib.hid h1.1
  have HG := Lib.hid (h2.keep HBX.out)
  have HSH := Lib.hid hs1
  have HSI := Lib.hid hs2
  have hl' : (len1 : Int) ≤ 2000000 := by omega
  have HL2 := Lib.hid hl2
  clear hf hff h1 h2 hs1 hs2 hM hl2
  subst hv
  go_enter Try.func81, Try.ntmps81
  go_wp2
  obtain ⟨W0, hW0⟩ : ∃ X, X = W.alloc (.cells #[.func (.func g) #[] #[]] 111) := ⟨_, rfl⟩
  rw [← hW0] at HBX HV0 HN HG ⊢
  have HW0 := Lib.hid (show W0.heap.size = W.heap.size + 1 by rw [hW0]; simp)
  clear hW0
  go_loopw [6, 7, 9, 12] (fun o h _ k wr => TwoRelC f cs W0 o h k wr) (fun _ _ _ k _ => len1 - (intOf k).toNat)
  case atStart => exact ⟨0, rfl, Nat.zero_le _, World.ownsRow_nil _ _ _ _, World.ownsRow_nil _ _ _ _, Lib.hid (fun k e => by cases e), Lib.hid (Below.refl _ _)⟩
  case round =>
    obtain ⟨n, rfl, hn, hown, hown2, HAP, HB⟩ := hrel
    have HO := Lib.hid hown
    have HH := Lib.hid hown2
    clear hown hown2
    by_cases hlt : n < len1
    · have hlt' : (n : Int) < len1 := by omega
      have hw1 : IntKind.i64.wrap ((n : Int) + 1) = (n : Int) + 1 := IntWalk.i64_in _ (by omega)
      have HLT := Lib.hid hlt
      obtain ⟨b, off, d, rfl, hd, d0, d1, d2, d3, d4⟩ := (HN.out.keep HB.out).node hlt
      obtain ⟨q, hq⟩ : ∃ q, f d = q := ⟨_, rfl⟩
      have HD := Lib.hid (And.intro hd hq)
      have HFV := Lib.hid (fun (i : Nat) (u : Value) (hu : (#[.string d.p, .int .i64 d.fk, .int .i64 d.fv, .int .i64 d.tk, .int .i64 d.tv] : Array Value)[i]? = some u) => show (wr.alloc (.cells #[.string d.p, .int .i64 d.fk, .int .i64 d.fv, .int .i64 d.tk, .int .i64 d.tv] 32)).cell? ⟨wr.heap.size, i, none⟩ = some u by rw [World.cell?_alloc_new]; simpa using hu)
      have HBW := Lib.hid (below_box wr (.cells #[.string d.p, .int .i64 d.fk, .int .i64 d.fv, .int .i64 d.tk, .int .i64 d.tv] 32))
      have HC := Lib.hid (fun w (hb : Below (wr.alloc (.cells #[.string d.p, .int .i64 d.fk, .int .i64 d.fv, .int .i64 d.tk, .int .i64 d.tv] 32)).heap.size (wr.alloc (.cells #[.string d.p, .int .i64 d.fk, .int .i64 d.fv, .int .i64 d.tk, .int .i64 d.tv] 32)) w) =>
        show Calls Try.prog 65 #[.slice a2 len2 cap2, .func (.func 104) #[] #[.pointer (some ⟨W.heap.size, 0, none⟩), .pointer (some ⟨wr.heap.size, 0, none⟩)]] w (BoolPost q w) by
          rw [← hq, HF.out]
          exact containsFuncT_c a2 len2 cap2 igs _ _ (by have := HL2.out; omega) HSI.out w (HG.out.keep (below_next (below_next HB.out HBW.out) hb)) (sift1C_rule _ m HM.out d (HSH.out.at hd) w _ _ (cell_kept hb (cell_kept (below_next HB.out HBW.out) HV0.out)) (cell_kept hb (HFV.out 0 _ rfl)) (cell_kept hb (HFV.out 1 _ rfl)) (cell_kept hb (HFV.out 2 _ rfl)) (cell_kept hb (HFV.out 3 _ rfl)) (cell_kept hb (HFV.out 4 _ rfl))))
      have HFV2 := Lib.hid (show (wr.alloc (.cells #[.string d.p, .int .i64 d.fk, .int .i64 d.fv, .int .i64 d.tk, .int .i64 d.tv] 32)).cell? ⟨wr.heap.size, 0, none⟩ = some (.string d.p) ∧ (wr.alloc (.cells #[.string d.p, .int .i64 d.fk, .int .i64 d.fv, .int .i64 d.tk, .int .i64 d.tv] 32)).cell? ⟨wr.heap.size, 1, none⟩ = some (.int .i64 d.fk) ∧ (wr.alloc (.cells #[.string d.p, .int .i64 d.fk, .int .i64 d.fv, .int .i64 d.tk, .int .i64 d.tv] 32)).cell? ⟨wr.heap.size, 2, none⟩ = some (.int .i64 d.fv) ∧ (wr.alloc (.cells #[.string d.p, .int .i64 d.fk, .int .i64 d.fv, .int .i64 d.tk, .int .i64 d.tv] 32)).cell? ⟨wr.heap.size, 3, none⟩ = some (.int .i64 d.tk) ∧ (wr.alloc (.cells #[.string d.p, .int .i64 d.fk, .int .i64 d.fv, .int .i64 d.tk, .int .i64 d.tv] 32)).cell? ⟨wr.heap.size, 4, none⟩ = some (.int .i64 d.tv) from ⟨HFV.out 0 _ rfl, HFV.out 1 _ rfl, HFV.out 2 _ rfl, HFV.out 3 _ rfl, HFV.out 4 _ rfl⟩)
      clear HFV hn hlt hd hq
      obtain ⟨p, fk, fv, tk, tv⟩ := d
      simp only at d0 d1 d2 d3 d4 HC HFV2 HBW
      go_wp2_with fail
      refine (HC.out _ (Below.refl _ _)).mono ?_
      rintro e W1 ⟨rfl, hb1⟩
      have B1 := Lib.hid (below_next (below_next HB.out HBW.out) hb1)
      have HO1 := Lib.hid (own_below (HO.out.alloc _) hb1)
      have HH1 := Lib.hid (own_below (HH.out.alloc _) hb1)
      obtain ⟨x0, x1, x2, x3, x4⟩ := HFV2.out
      replace x0 := cell_kept hb1 x0; replace x1 := cell_kept hb1 x1; replace x2 := cell_kept hb1 x2; replace x3 := cell_kept hb1 x3; replace x4 := cell_kept hb1 x4
      clear hb1 d0 d1 d2 d3 d4
      cases q
      · go_wp2_with (at_builtin; refine wpList_append_oneC rfl _ _ rfl W0.heap.size _ ((cs.take n).filter (fun c => !f c)) rfl (HO1.out.alloc _) _ _ (⟨p, fk, fv, tk, tv⟩ : Cmd) rfl (cmds_lit _ (⟨p, fk, fv, tk, tv⟩ : Cmd)) (by have h1 := HLT.out; have h2 := sift_len (fun c => !f c) cs n; omega) (by have := B1.out.size; simp; omega) ?_; intro v4 w4 ho4 hg4 hat4)
        rw [← sift_in (f := fun c => !f c) HD.out.1 (by show (!f _) = true; rw [HD.out.2]; rfl)] at ho4
        have hh4 := sift_far (HH1.out.alloc (.cells #[.string p, .int .i64 fk, .int .i64 fv, .int .i64 tk, .int .i64 tv] 32)) hg4 (fun k e1 e2 => HAP.out k e2 e1)
        rw [← sift_out HD.out.1 HD.out.2] at hh4
        have HAP4 := Lib.hid (sift_apart HAP.out hat4 (fun k e => by have := (HH1.out.lt k e).2; simp; omega))
        have HB9 := Lib.hid ((B1.out.alloc B1.out.size _).grown hg4 (by have := B1.out.size; simp; omega) (fun k e => (HO1.out.lt k e).1))
        clear hg4 hat4
        go_roundw
        case rel => exact ⟨n + 1, by go_num, by have := HLT.out; have := HE.out; omega, ho4, hh4, HAP4, HB9⟩
        case measure => have := HLT.out; simp [intOf]; omega
      · go_wp2_with (at_builtin; refine wpList_append_oneC rfl _ _ rfl W0.heap.size _ ((cs.take n).filter f) rfl (HH1.out.alloc _) _ _ (⟨p, fk, fv, tk, tv⟩ : Cmd) rfl (cmds_lit _ (⟨p, fk, fv, tk, tv⟩ : Cmd)) (by have h1 := HLT.out; have h2 := sift_len f cs n; omega) (by have := B1.out.size; simp; omega) ?_; intro v4 w4 ho4 hg4 hat4)
        rw [← sift_in HD.out.1 HD.out.2] at ho4
        have hh4 := sift_far (HO1.out.alloc (.cells #[.string p, .int .i64 fk, .int .i64 fv, .int .i64 tk, .int .i64 tv] 32)) hg4 (fun k e1 e2 => HAP.out k e1 e2)
        rw [← sift_out (f := fun c => !f c) HD.out.1 (by show (!f _) = false; rw [HD.out.2]; rfl)] at hh4
        have HAP4 := Lib.hid (apart_turn (sift_apart (apart_turn HAP.out) hat4 (fun k e => by have := (HO1.out.lt k e).2; simp; omega)))
        have HB9 := Lib.hid ((B1.out.alloc B1.out.size _).grown hg4 (by have := B1.out.size; simp; omega) (fun k e => (HH1.out.lt k e).1))
        clear hg4 hat4
        go_roundw
        case rel => exact ⟨n + 1, by go_num, by have := HLT.out; have := HE.out; omega, hh4, ho4, HAP4, HB9⟩
        case measure => have := HLT.out; simp [intOf]; omega
    · have hge : (len1 : Int) ≤ n := by omega
      have HX := Lib.hid (show cs.take n = cs by rw [List.take_of_length_le (by have := HE.out; omega)])
      have hown := HO.out
      have hown2 := HH.out
      rw [HX.out] at hown hown2
      clear hn hlt
      go_wp2
      go_ret2
      exact ⟨_, _, rfl, own_mono hown (by have := HW0.out; omega), own_mono hown2 (by have := HW0.out; omega), below_next HBX.out HB.out⟩

/-- A test of an item with a text: a function value without captured variables. -/
def MeetsN (v : Value) (m : Nd → ByteArray → Bool) : Prop :=
  ∃ g : Nat, v = .func (.func g) #[] #[] ∧ (∀ args w', (callFunc g args).run Try.prog w' = .ok (.enter g args) w') ∧ ∀ (c : Nd) (q : ByteArray) (W : World), c.p.size ≤ 2097152 → q.size ≤ 2097152 → Calls Try.prog g #[.agg #[.string c.p, .int .i64 c.k, .int .i64 c.v], .string q] W (BoolPost (m c q) W)

/-- append(v, x) of one item, and where the result lies. -/
theorem wpList_append_oneN {w : World} {ops : Array Oper} {rest : List Oper} {o : Oper} {a : Act} {Q : Exit → Act → World → Prop} (hgd : o.guard = none) (s x : Operand)
    (ho : o.op = .call { callee := .builtin .append, args := #[s, x], argTypes := #[39, 39] })
    (base : Nat) (v : Value) (acc : List Nd) (hs : a.eval s = v) (hown : w.ownsRow base 46 3 v acc.length (flatN acc))
    (ad : Addr) (cap : Nat) (z : Nd) (hx : a.eval x = .slice (some ad) 1 cap) (hi : NodesAt w (some ad) 1 [z]) (hlen : acc.length ≤ 2097152) (hb : base ≤ w.heap.size)
    (h : ∀ v3 w3, w3.ownsRow base 46 3 v3 (acc ++ [z]).length (flatN (acc ++ [z])) → w.grownBy w3 v.ownBlock → (v3.ownBlock = v.ownBlock ∨ v3.ownBlock = some w.heap.size) → wpList Try.prog ops Q rest (a.put o.dst v3) w3) : wpList Try.prog ops Q (o :: rest) a w := by
  obtain ⟨i0, hi0, hz0, hz1, hz2⟩ := info_parts infoNode
  refine wpList_append_own_at w hgd s x 39 ho base 46 i0 (.agg #[.string ⟨#[]⟩, .int .i64 0, .int .i64 0]) 3 32 Try.underlying39 hi0 hz0 hz1 hz2 rfl (by decide) v acc.length (flatN acc) hs hown ad 1 cap (flatN [z]) hx (by rw [flatN_lengthX]; rfl) (nodes_cells hi) (flatN_cell1 _) (by unfold maxLen; omega) (by omega) hb ?_
  intro v3 w3 h1 h2 _ h4
  exact h v3 w3 (by rw [flatN_appendX, List.length_append]; exact h1) h2 h4

set_option maxHeartbeats 1000000 in
set_option maxRecDepth 100000 in
theorem sift1N_call (v : Value) (m : Nd → ByteArray → Bool) (hM : MeetsN v m) (c : Nd) (q : ByteArray) (hc : c.p.size ≤ 2097152) (hq : q.size ≤ 2097152) (W0 : World) (B1 B2 : Nat) (h : W0.cell? ⟨B1, 0, none⟩ = some v) (d0 : W0.cell? ⟨B2, 0, none⟩ = some (.string c.p)) (d1 : W0.cell? ⟨B2, 1, none⟩ = some (.int .i64 c.k)) (d2 : W0.cell? ⟨B2, 2, none⟩ = some (.int .i64 c.v)) :
    Calls Try.prog 88 #[.string q, .pointer (some ⟨B1, 0, none⟩), .pointer (some ⟨B2, 0, none⟩)] W0 (BoolPost (m c q) W0) := by
  obtain ⟨g, rfl, eg, hP⟩ := hM
  obtain ⟨y, hy⟩ : ∃ y, m c q = y := ⟨_, rfl⟩
  have HP := Lib.hid (fun w => show Calls Try.prog g #[.agg #[.string c.p, .int .i64 c.k, .int .i64 c.v], .string q] w (BoolPost y w) by rw [← hy]; exact hP c q w hc hq)
  rw [hy]
  clear hP hy hc hq
  obtain ⟨p, k, v⟩ := c
  skip
  simp only at HP d0 d1 d2
  go_enter Try.func88, Try.ntmps88
  go_wp2_with (go_at_fn g; refine (HP.out _).mono ?_; rintro e W1 ⟨rfl, hb1⟩; have B1 := Lib.hid hb1; clear hb1 d0 d1 d2)
  go_ret
  exact ⟨ret_bool rfl, B1.out⟩
theorem sift1N_rule (v : Value) (m : Nd → ByteArray → Bool) (hM : MeetsN v m) (c : Nd) (hc : c.p.size ≤ 2097152) (W0 : World) (B1 B2 : Nat) (h : W0.cell? ⟨B1, 0, none⟩ = some v) (d0 : W0.cell? ⟨B2, 0, none⟩ = some (.string c.p)) (d1 : W0.cell? ⟨B2, 1, none⟩ = some (.int .i64 c.k)) (d2 : W0.cell? ⟨B2, 2, none⟩ = some (.int .i64 c.v)) :
    RuleT W0 (.func (.func 88) #[] #[.pointer (some ⟨B1, 0, none⟩), .pointer (some ⟨B2, 0, none⟩)]) (m c) :=
  ⟨_, _, rfl, enters_of Try.func88 (by kernel_rfl) rfl, fun q W hq hW => sift1N_call v m hM c q hc hq W B1 B2 (cell_kept hW h) (cell_kept hW d0) (cell_kept hW d1) (cell_kept hW d2)⟩

/-- What sift tells. -/
def SiftPostN (kept held : List Nd) (W : World) (e : Ending) (w' : World) : Prop :=
  ∃ v1 v2, e = .returned (.tuple #[v1, v2]) ∧ w'.ownsRow W.heap.size 46 3 v1 kept.length (flatN kept) ∧ w'.ownsRow W.heap.size 46 3 v2 held.length (flatN held) ∧ Below W.heap.size W w'

/-- The loop of sift: both lists so far, each in a block of its own. -/
def TwoRelN (f : Nd → Bool) (cs : List Nd) (W : World) (o h k : Value) (wr : World) : Prop :=
  ∃ n : Nat, k = .int .i64 n ∧ n ≤ cs.length ∧ wr.ownsRow W.heap.size 46 3 o ((cs.take n).filter (fun c => !f c)).length (flatN ((cs.take n).filter (fun c => !f c))) ∧ wr.ownsRow W.heap.size 46 3 h ((cs.take n).filter f).length (flatN ((cs.take n).filter f)) ∧ Hid (ApartV o h) ∧ Hid (Below W.heap.size W wr)

set_option maxHeartbeats 4000000 in
set_option maxRecDepth 100000 in
theorem siftN_c (a1 : Option Addr) (len1 cap1 : Nat) (cs : List Nd) (a2 : Option Addr) (len2 cap2 : Nat) (igs : List ByteArray) (v : Value) (m : Nd → ByteArray → Bool) (hl1 : len1 ≤ 2000000) (hl2 : len2 ≤ 2000000) (hs1 : Short 2097152 cs) (hs2 : ShortX 2097152 igs) (W : World) (h1 : NodesAt W a1 len1 cs) (h2 : TextsAt W a2 len2 igs) (hM : MeetsN v m) :
    Calls Try.prog 56 #[.slice a1 len1 cap1, .slice a2 len2 cap2, v] W (SiftPostN (cs.filter (fun c => !igs.any (m c))) (cs.filter (fun c => igs.any (m c))) W) := by
  obtain ⟨f, hf⟩ : ∃ f : Nd → Bool, f = (fun c => igs.any (m c)) := ⟨_, rfl⟩
  have HF := Lib.hid (fun d => congrFun hf d)
  have hff : (fun c => !igs.any (m c)) = (fun c => !f c) := by rw [hf]
  rw [hff, ← hf]
  obtain ⟨g, hv, -⟩ := id hM
  have HM := Lib.hid hM
  have HBX := Lib.hid (below_box W (.cells #[v] 75))
  have HV0 := Lib.hid (one_cellX W v 75)
  have HN := Lib.hid (h1.keep HBX.out)
  have HE := Lib.hid h1.1
  have HG := Lib.hid (h2.keep HBX.out)
  have HSH := Lib.hid hs1
  have HSI := Lib.hid hs2
  have hl' : (len1 : Int) ≤ 2000000 := by omega
  have HL2 := Lib.hid hl2
  clear hf hff h1 h2 hs1 hs2 hM hl2
  subst hv
  go_enter Try.func56, Try.ntmps56
  go_wp2
  obtain ⟨W0, hW0⟩ : ∃ X, X = W.alloc (.cells #[.func (.func g) #[] #[]] 75) := ⟨_, rfl⟩
  rw [← hW0] at HBX HV0 HN HG ⊢
  have HW0 := Lib.hid (show W0.heap.size = W.heap.size + 1 by rw [hW0]; simp)
  clear hW0
  go_loopw [6, 7, 9, 12] (fun o h _ k wr => TwoRelN f cs W0 o h k wr) (fun _ _ _ k _ => len1 - (intOf k).toNat)
  case atStart => exact ⟨0, rfl, Nat.zero_le _, World.ownsRow_nil _ _ _ _, World.ownsRow_nil _ _ _ _, Lib.hid (fun k e => by cases e), Lib.hid (Below.refl _ _)⟩
  case round =>
    obtain ⟨n, rfl, hn, hown, hown2, HAP, HB⟩ := hrel
    have HO := Lib.hid hown
    have HH := Lib.hid hown2
    clear hown hown2
    by_cases hlt : n < len1
    · have hlt' : (n : Int) < len1 := by omega
      have hw1 : IntKind.i64.wrap ((n : Int) + 1) = (n : Int) + 1 := IntWalk.i64_in _ (by omega)
      have HLT := Lib.hid hlt
      obtain ⟨b, off, d, rfl, hd, d0, d1, d2⟩ := (HN.out.keep HB.out).node hlt
      obtain ⟨q, hq⟩ : ∃ q, f d = q := ⟨_, rfl⟩
      have HD := Lib.hid (And.intro hd hq)
      have HFV := Lib.hid (fun (i : Nat) (u : Value) (hu : (#[.string d.p, .int .i64 d.k, .int .i64 d.v] : Array Value)[i]? = some u) => show (wr.alloc (.cells #[.string d.p, .int .i64 d.k, .int .i64 d.v] 46)).cell? ⟨wr.heap.size, i, none⟩ = some u by rw [World.cell?_alloc_new]; simpa using hu)
      have HBW := Lib.hid (below_box wr (.cells #[.string d.p, .int .i64 d.k, .int .i64 d.v] 46))
      have HC := Lib.hid (fun w (hb : Below (wr.alloc (.cells #[.string d.p, .int .i64 d.k, .int .i64 d.v] 46)).heap.size (wr.alloc (.cells #[.string d.p, .int .i64 d.k, .int .i64 d.v] 46)) w) =>
        show Calls Try.prog 65 #[.slice a2 len2 cap2, .func (.func 88) #[] #[.pointer (some ⟨W.heap.size, 0, none⟩), .pointer (some ⟨wr.heap.size, 0, none⟩)]] w (BoolPost q w) by
          rw [← hq, HF.out]
          exact containsFuncT_c a2 len2 cap2 igs _ _ (by have := HL2.out; omega) HSI.out w (HG.out.keep (below_next (below_next HB.out HBW.out) hb)) (sift1N_rule _ m HM.out d (HSH.out d (List.mem_of_getElem? hd)) w _ _ (cell_kept hb (cell_kept (below_next HB.out HBW.out) HV0.out)) (cell_kept hb (HFV.out 0 _ rfl)) (cell_kept hb (HFV.out 1 _ rfl)) (cell_kept hb (HFV.out 2 _ rfl))))
      have HFV2 := Lib.hid (show (wr.alloc (.cells #[.string d.p, .int .i64 d.k, .int .i64 d.v] 46)).cell? ⟨wr.heap.size, 0, none⟩ = some (.string d.p) ∧ (wr.alloc (.cells #[.string d.p, .int .i64 d.k, .int .i64 d.v] 46)).cell? ⟨wr.heap.size, 1, none⟩ = some (.int .i64 d.k) ∧ (wr.alloc (.cells #[.string d.p, .int .i64 d.k, .int .i64 d.v] 46)).cell? ⟨wr.heap.size, 2, none⟩ = some (.int .i64 d.v) from ⟨HFV.out 0 _ rfl, HFV.out 1 _ rfl, HFV.out 2 _ rfl⟩)
      clear HFV hn hlt hd hq
      obtain ⟨p, k, v⟩ := d
      simp only at d0 d1 d2 HC HFV2 HBW
      go_wp2_with fail
      refine (HC.out _ (Below.refl _ _)).mono ?_
      rintro e W1 ⟨rfl, hb1⟩
      have B1 := Lib.hid (below_next (below_next HB.out HBW.out) hb1)
      have HO1 := Lib.hid (own_below (HO.out.alloc _) hb1)
      have HH1 := Lib.hid (own_below (HH.out.alloc _) hb1)
      obtain ⟨x0, x1, x2⟩ := HFV2.out
      replace x0 := cell_kept hb1 x0; replace x1 := cell_kept hb1 x1; replace x2 := cell_kept hb1 x2
      clear hb1 d0 d1 d2
      cases q
      · go_wp2_with (at_builtin; refine wpList_append_oneN rfl _ _ rfl W0.heap.size _ ((cs.take n).filter (fun c => !f c)) rfl (HO1.out.alloc _) _ _ (⟨p, k, v⟩ : Nd) rfl (nodes_lit _ (⟨p, k, v⟩ : Nd)) (by have h1 := HLT.out; have h2 := sift_len (fun c => !f c) cs n; omega) (by have := B1.out.size; simp; omega) ?_; intro v4 w4 ho4 hg4 hat4)
        rw [← sift_in (f := fun c => !f c) HD.out.1 (by show (!f _) = true; rw [HD.out.2]; rfl)] at ho4
        have hh4 := sift_far (HH1.out.alloc (.cells #[.string p, .int .i64 k, .int .i64 v] 46)) hg4 (fun k e1 e2 => HAP.out k e2 e1)
        rw [← sift_out HD.out.1 HD.out.2] at hh4
        have HAP4 := Lib.hid (sift_apart HAP.out hat4 (fun k e => by have := (HH1.out.lt k e).2; simp; omega))
        have HB9 := Lib.hid ((B1.out.alloc B1.out.size _).grown hg4 (by have := B1.out.size; simp; omega) (fun k e => (HO1.out.lt k e).1))
        clear hg4 hat4
        go_roundw
        case rel => exact ⟨n + 1, by go_num, by have := HLT.out; have := HE.out; omega, ho4, hh4, HAP4, HB9⟩
        case measure => have := HLT.out; simp [intOf]; omega
      · go_wp2_with (at_builtin; refine wpList_append_oneN rfl _ _ rfl W0.heap.size _ ((cs.take n).filter f) rfl (HH1.out.alloc _) _ _ (⟨p, k, v⟩ : Nd) rfl (nodes_lit _ (⟨p, k, v⟩ : Nd)) (by have h1 := HLT.out; have h2 := sift_len f cs n; omega) (by have := B1.out.size; simp; omega) ?_; intro v4 w4 ho4 hg4 hat4)
        rw [← sift_in HD.out.1 HD.out.2] at ho4
        have hh4 := sift_far (HO1.out.alloc (.cells #[.string p, .int .i64 k, .int .i64 v] 46)) hg4 (fun k e1 e2 => HAP.out k e1 e2)
        rw [← sift_out (f := fun c => !f c) HD.out.1 (by show (!f _) = false; rw [HD.out.2]; rfl)] at hh4
        have HAP4 := Lib.hid (apart_turn (sift_apart (apart_turn HAP.out) hat4 (fun k e => by have := (HO1.out.lt k e).2; simp; omega)))
        have HB9 := Lib.hid ((B1.out.alloc B1.out.size _).grown hg4 (by have := B1.out.size; simp; omega) (fun k e => (HH1.out.lt k e).1))
        clear hg4 hat4
        go_roundw
        case rel => exact ⟨n + 1, by go_num, by have := HLT.out; have := HE.out; omega, hh4, ho4, HAP4, HB9⟩
        case measure => have := HLT.out; simp [intOf]; omega
    · have hge : (len1 : Int) ≤ n := by omega
      have HX := Lib.hid (show cs.take n = cs by rw [List.take_of_length_le (by have := HE.out; omega)])
      have hown := HO.out
      have hown2 := HH.out
      rw [HX.out] at hown hown2
      clear hn hlt
      go_wp2
      go_ret2
      exact ⟨_, _, rfl, own_mono hown (by have := HW0.out; omega), own_mono hown2 (by have := HW0.out; omega), below_next HBX.out HB.out⟩

theorem touches_meets : MeetsC (.func (.func 82) #[] #[]) touchI :=
  ⟨_, rfl, enters_of Try.func82 (by kernel_rfl) rfl, fun c q W hc hq => touches_c c q hc hq W⟩
theorem isPartOf_meets : MeetsN (.func (.func 57) #[] #[]) partI :=
  ⟨_, rfl, enters_of Try.func57 (by kernel_rfl) rfl, fun c q W hc hq => isPartOf_c c q hc hq W⟩

set_option maxHeartbeats 2000000 in
set_option maxRecDepth 100000 in
theorem siftLog_c (a1 : Option Addr) (len1 cap1 : Nat) (cs : List Cmd) (a2 : Option Addr) (len2 cap2 : Nat) (igs : List ByteArray) (hl1 : len1 ≤ 2000000) (hl2 : len2 ≤ 2000000) (hs1 : ShortC 2097152 cs) (hs2 : ShortX 2097152 igs) (W : World) (h1 : CmdsAt W a1 len1 cs) (h2 : TextsAt W a2 len2 igs) :
    Calls Try.prog 49 #[.slice a1 len1 cap1, .slice a2 len2 cap2] W (SiftPostC (keepL cs igs) (holdL cs igs) W) := by
  obtain ⟨v1, hv1⟩ : ∃ x, validL cs = x := ⟨_, rfl⟩
  obtain ⟨v2, hv2⟩ : ∃ x, igV igs = x := ⟨_, rfl⟩
  have HV1 := Lib.hid (fun w (hb : Below W.heap.size W w) => show Calls Try.prog 80 #[.slice a1 len1 cap1] w (BoolPost v1 w) by rw [← hv1]; exact implLogValid_c a1 len1 cap1 cs (by omega) hs1 w (h1.keep hb))
  have HV2 := Lib.hid (fun w (hb : Below W.heap.size W w) => show Calls Try.prog 29 #[.slice a2 len2 cap2] w (BoolPost v2 w) by rw [← hv2]; exact implIgnores_c a2 len2 cap2 igs (by omega) hs2 w (h2.keep hb))
  have HBAD := Lib.hid (show (v1 = false ∨ v2 = false) → keepL cs igs = [] ∧ holdL cs igs = [] by rw [← hv1, ← hv2]; exact keep_bad)
  have HS := Lib.hid (show v1 = true → v2 = true → ∀ w (hb : Below W.heap.size W w), Calls Try.prog 81 #[.slice a1 len1 cap1, .slice a2 len2 cap2, .func (.func 82) #[] #[]] w (SiftPostC (keepL cs igs) (holdL cs igs) w) by
    intro e1 e2 w hb
    obtain ⟨k1, k2⟩ := keep_impl (hv1.trans e1) (hv2.trans e2)
    rw [← k1, ← k2]
    exact siftC_c a1 len1 cap1 cs a2 len2 cap2 igs _ touchI hl1 hl2 hs1 hs2 w (h1.keep hb) (h2.keep hb) touches_meets)
  obtain ⟨kk, hkk⟩ : ∃ x, keepL cs igs = x := ⟨_, rfl⟩
  obtain ⟨hh, hhh⟩ : ∃ x, holdL cs igs = x := ⟨_, rfl⟩
  rw [hkk, hhh] at HBAD HS ⊢
  clear hv1 hv2 h1 h2 hs1 hs2 hl1 hl2 hkk hhh
  go_enter Try.func49, Try.ntmps49
  cases v1 with
  | false =>
    obtain ⟨rfl, rfl⟩ := HBAD.out (.inl rfl)
    go_wp2_with fail
    refine (HV1.out _ (Below.refl _ _)).mono ?_
    rintro e W1 ⟨rfl, hb1⟩
    have B1 := Lib.hid hb1
    clear hb1
    go_wp2
    go_ret2
    exact ⟨_, _, rfl, World.ownsRow_nil _ _ _ _, World.ownsRow_nil _ _ _ _, B1.out⟩
  | true =>
    go_wp2_with fail
    refine (HV1.out _ (Below.refl _ _)).mono ?_
    rintro e W1 ⟨rfl, hb1⟩
    have B1 := Lib.hid hb1
    clear hb1
    go_wp2_with fail
    refine (HV2.out _ B1.out).mono ?_
    rintro e W2 ⟨rfl, hb2⟩
    have B2 := Lib.hid (below_next B1.out hb2)
    clear hb2
    cases v2 with
    | false =>
      obtain ⟨rfl, rfl⟩ := HBAD.out (.inr rfl)
      go_wp2
      go_ret2
      exact ⟨_, _, rfl, World.ownsRow_nil _ _ _ _, World.ownsRow_nil _ _ _ _, B2.out⟩
    | true =>
      have HS2 := Lib.hid (HS.out (by first | rfl | trivial) (by first | rfl | trivial))
      clear HS HBAD
      go_wp2_with fail
      refine (HS2.out _ B2.out).mono ?_
      rintro e W3 ⟨u1, u2, rfl, ho1, ho2, hb3⟩
      have HO := Lib.hid (And.intro (own_mono ho1 B2.out.size) (own_mono ho2 B2.out.size))
      have B3 := Lib.hid (below_next B2.out hb3)
      clear ho1 ho2 hb3
      go_wp2
      go_ret2
      exact ⟨_, _, rfl, HO.out.1, HO.out.2, B3.out⟩

set_option maxHeartbeats 1000000 in
set_option maxRecDepth 100000 in
theorem implKeep_c (a1 : Option Addr) (len1 cap1 : Nat) (cs : List Cmd) (a2 : Option Addr) (len2 cap2 : Nat) (igs : List ByteArray) (hl1 : len1 ≤ 2000000) (hl2 : len2 ≤ 2000000) (hs1 : ShortC 2097152 cs) (hs2 : ShortX 2097152 igs) (W : World) (h1 : CmdsAt W a1 len1 cs) (h2 : TextsAt W a2 len2 igs) :
    Calls Try.prog 13 #[.slice a1 len1 cap1, .slice a2 len2 cap2] W (CmdsPost (keepL cs igs) W) := by
  have HM := Lib.hid (siftLog_c a1 len1 cap1 cs a2 len2 cap2 igs hl1 hl2 hs1 hs2 W h1 h2)
  clear hl1 hl2 hs1 hs2 h1 h2
  obtain ⟨kk, hkk⟩ : ∃ x, keepL cs igs = x := ⟨_, rfl⟩
  obtain ⟨hh, hhh⟩ : ∃ x, holdL cs igs = x := ⟨_, rfl⟩
  rw [hkk, hhh] at HM
  rw [hkk]
  clear hkk hhh
  go_enter Try.func13, Try.ntmps13
  go_wp2_with fail
  refine HM.out.mono ?_
  rintro e W1 ⟨u1, u2, rfl, ho1, ho2, hb⟩
  have HO := Lib.hid ho1
  have HB := Lib.hid hb
  clear ho1 ho2 hb
  go_wp2
  go_ret
  exact ⟨⟨_, rfl, HO.out⟩, HB.out⟩

set_option maxHeartbeats 1000000 in
set_option maxRecDepth 100000 in
theorem implHold_c (a1 : Option Addr) (len1 cap1 : Nat) (cs : List Cmd) (a2 : Option Addr) (len2 cap2 : Nat) (igs : List ByteArray) (hl1 : len1 ≤ 2000000) (hl2 : len2 ≤ 2000000) (hs1 : ShortC 2097152 cs) (hs2 : ShortX 2097152 igs) (W : World) (h1 : CmdsAt W a1 len1 cs) (h2 : TextsAt W a2 len2 igs) :
    Calls Try.prog 19 #[.slice a1 len1 cap1, .slice a2 len2 cap2] W (CmdsPost (holdL cs igs) W) := by
  have HM := Lib.hid (siftLog_c a1 len1 cap1 cs a2 len2 cap2 igs hl1 hl2 hs1 hs2 W h1 h2)
  clear hl1 hl2 hs1 hs2 h1 h2
  obtain ⟨kk, hkk⟩ : ∃ x, keepL cs igs = x := ⟨_, rfl⟩
  obtain ⟨hh, hhh⟩ : ∃ x, holdL cs igs = x := ⟨_, rfl⟩
  rw [hkk, hhh] at HM
  rw [hhh]
  clear hkk hhh
  go_enter Try.func19, Try.ntmps19
  go_wp2_with fail
  refine HM.out.mono ?_
  rintro e W1 ⟨u1, u2, rfl, ho1, ho2, hb⟩
  have HO := Lib.hid ho2
  have HB := Lib.hid hb
  clear ho1 ho2 hb
  go_wp2
  go_ret
  exact ⟨⟨_, rfl, HO.out⟩, HB.out⟩

set_option maxHeartbeats 2000000 in
set_option maxRecDepth 100000 in
theorem implFilterTree_c (a1 : Option Addr) (len1 cap1 : Nat) (ns : List Nd) (a2 : Option Addr) (len2 cap2 : Nat) (igs : List ByteArray) (hl1 : len1 ≤ 2000000) (hl2 : len2 ≤ 2000000) (hs1 : Short 2097152 ns) (hs2 : ShortX 2097152 igs) (W : World) (h1 : NodesAt W a1 len1 ns) (h2 : TextsAt W a2 len2 igs) :
    Calls Try.prog 22 #[.slice a1 len1 cap1, .slice a2 len2 cap2] W (FiltPost (filtT ns igs) W) := by
  obtain ⟨v1, hv1⟩ : ∃ x, validT ns = x := ⟨_, rfl⟩
  obtain ⟨v2, hv2⟩ : ∃ x, igV igs = x := ⟨_, rfl⟩
  have HV1 := Lib.hid (fun w (hb : Below W.heap.size W w) => show Calls Try.prog 27 #[.slice a1 len1 cap1] w (BoolPost v1 w) by rw [← hv1]; exact implTreeValid_c a1 len1 cap1 ns (by omega) hs1 w (h1.keep hb))
  have HV2 := Lib.hid (fun w (hb : Below W.heap.size W w) => show Calls Try.prog 29 #[.slice a2 len2 cap2] w (BoolPost v2 w) by rw [← hv2]; exact implIgnores_c a2 len2 cap2 igs (by omega) hs2 w (h2.keep hb))
  have HBAD := Lib.hid (show (v1 = false ∨ v2 = false) → filtT ns igs = [] by rw [← hv1, ← hv2]; exact filt_bad)
  have HS := Lib.hid (show v1 = true → v2 = true → ∀ w (hb : Below W.heap.size W w), Calls Try.prog 56 #[.slice a1 len1 cap1, .slice a2 len2 cap2, .func (.func 57) #[] #[]] w (SiftPostN (filtT ns igs) (ns.filter (fun n => igs.any (partI n))) w) by
    intro e1 e2 w hb
    rw [← filt_impl (hv1.trans e1) (hv2.trans e2)]
    exact siftN_c a1 len1 cap1 ns a2 len2 cap2 igs _ partI hl1 hl2 hs1 hs2 w (h1.keep hb) (h2.keep hb) isPartOf_meets)
  obtain ⟨kk, hkk⟩ : ∃ x, filtT ns igs = x := ⟨_, rfl⟩
  rw [hkk] at HBAD HS ⊢
  clear hv1 hv2 h1 h2 hs1 hs2 hl1 hl2 hkk
  go_enter Try.func22, Try.ntmps22
  cases v1 with
  | false =>
    obtain rfl := HBAD.out (.inl rfl)
    go_wp2_with fail
    refine (HV1.out _ (Below.refl _ _)).mono ?_
    rintro e W1 ⟨rfl, hb1⟩
    have B1 := Lib.hid hb1
    clear hb1
    go_wp2
    go_ret
    exact ⟨⟨_, rfl, World.ownsRow_nil _ _ _ _⟩, B1.out⟩
  | true =>
    go_wp2_with fail
    refine (HV1.out _ (Below.refl _ _)).mono ?_
    rintro e W1 ⟨rfl, hb1⟩
    have B1 := Lib.hid hb1
    clear hb1
    go_wp2_with fail
    refine (HV2.out _ B1.out).mono ?_
    rintro e W2 ⟨rfl, hb2⟩
    have B2 := Lib.hid (below_next B1.out hb2)
    clear hb2
    cases v2 with
    | false =>
      obtain rfl := HBAD.out (.inr rfl)
      go_wp2
      go_ret
      exact ⟨⟨_, rfl, World.ownsRow_nil _ _ _ _⟩, B2.out⟩
    | true =>
      have HS2 := Lib.hid (HS.out (by first | rfl | trivial) (by first | rfl | trivial))
      clear HS HBAD
      go_wp2_with fail
      refine (HS2.out _ B2.out).mono ?_
      rintro e W3 ⟨u1, u2, rfl, ho1, ho2, hb3⟩
      have HO := Lib.hid (own_mono ho1 B2.out.size)
      have B3 := Lib.hid (below_next B2.out hb3)
      clear ho1 ho2 hb3
      go_wp2
      go_ret
      exact ⟨⟨_, rfl, HO.out⟩, B3.out⟩

end Go.Proofs.Ytmlnakkfjecibaa
