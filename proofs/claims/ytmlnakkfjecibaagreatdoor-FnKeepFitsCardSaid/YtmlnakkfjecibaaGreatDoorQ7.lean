/-
  Texts of this proof, one behind the other: Ie, Vs, Tx, No, Iq, Iy, Il, Zg, Zh, Iu.
-/
import Derived.LaidEql
import Derived.Stop.Asserts
import Derived.RowKitTokens
import Derived.Test.YtmlnakkfjecibaaGreatDoorRows
import Derived.LaidLaws
import Derived.LaidMore
import Derived.MakeChecks
import Derived.FnData
import Derived.Clock
import Derived.Laws.AppendOwnNone
import Derived.Laws.Concat
import Derived.Laws.Runes
import Derived.Deep.Cut
import Derived.Lib.SliceRun
import Derived.WideLaws
import Derived.Maps.AppendAt
import Derived.Deep.RegionHeld3
import Derived.Laws.StructEq
import Derived.Laws.EntriesVeiled
import Derived.Deep.QuietTactic
import Derived.Shelf.Abstract
import Derived.Test.YtmlnakkfjecibaaGreatDoorBn
import Derived.Test.YtmlnakkfjecibaaGreatDoorSa
import Derived.Test.YtmlnakkfjecibaaGreatDoorWd
import Derived.Test.YtmlnakkfjecibaaGreatDoorTl
import Derived.Test.YtmlnakkfjecibaaGreatDoorQ1
import Derived.Test.YtmlnakkfjecibaaGreatDoorQ2
import Derived.Test.YtmlnakkfjecibaaGreatDoorTt
import Derived.Test.YtmlnakkfjecibaaGreatDoorQ3
import Derived.Test.YtmlnakkfjecibaaGreatDoorCa
import Derived.Test.YtmlnakkfjecibaaGreatDoorQ4
import Derived.Test.YtmlnakkfjecibaaGreatDoorPd
/-
  errors.Is, for nil and for the very error asked for, made by errors.New.
-/
namespace Go.Proofs.YtmlnakkfjecibaaGreatDoor
open Go.RowKit Go.Extern.Stop Go.Stop Go.Extern

theorem reflTypeOf (v : Value) (w : World) : (Extern.ReflectliteType.typeOf #[.iface 160 v]).run Tryz.prog w = .ok (.iface 138 (.agg #[.pointer (some ⟨3, 160, none⟩)])) w := by kernel_rfl
theorem reflComparable (w : World) : (Extern.find Tryz.f123).map (fun E => (E #[.agg #[.pointer (some ⟨3, 160, none⟩)]]).run Tryz.prog w) = some (.ok (.bool true) w) := by kernel_rfl
theorem reflMethod (v : Value) (w : World) : (Go.method 296 138 v "Comparable").run Tryz.prog w = .ok (123, v) w := by kernel_rfl
theorem infoErrP : (Tryz.prog.info? 160).map (·.comparable) = some true := by kernel_rfl
theorem infoErrS : (Tryz.prog.info? 184).map (·.size) = some 1 := by kernel_rfl

set_option maxHeartbeats 1000000 in
set_option maxRecDepth 100000 in
/-- The very error that is asked for. -/
theorem isErr_same (a : Addr) (w : World) :
    Calls Tryz.prog 42 #[.iface 160 (.pointer (some a)), .iface 160 (.pointer (some a))] w fun e w' => e = .returned (.bool true) ∧ w' = w := by
  obtain ⟨i, hi, hcmp⟩ := Option.map_eq_some_iff.1 infoErrP
  obtain ⟨j, hj, hjs⟩ := Option.map_eq_some_iff.1 infoErrS
  have hT := @run_callFunc_extern Tryz.prog 68 _ Extern.ReflectliteType.typeOf Tryz.func68 (by kernel_rfl) (by kernel_rfl) (by kernel_rfl) (by kernel_rfl)
  obtain ⟨E, hE, cT⟩ := Option.map_eq_some_iff.1 (reflComparable w)
  have hC := @run_callFunc_extern Tryz.prog 123 _ E Tryz.func123 (by kernel_rfl) (by kernel_rfl) (by kernel_rfl) hE
  have tT := reflTypeOf
  have mR := reflMethod
  have heq := run_eql_iface_ptr_same (P := Tryz.prog) w a Tryz.underlying90 Tryz.underlying160 hi hcmp hj
  go_enter Tryz.func42, Tryz.ntmps42
  go_wp2
  refine wp_loop_rounds 1 ?_
  rw [rounds_succ]
  go_wp2
  go_ret
  exact ⟨rfl, rfl⟩

set_option maxHeartbeats 1000000 in
set_option maxRecDepth 100000 in
/-- No error at all. -/
theorem isErr_nil (b : Addr) (w : World) :
    Calls Tryz.prog 42 #[.nilIface, .iface 160 (.pointer (some b))] w fun e w' => e = .returned (.bool false) ∧ w' = w := by
  have hn := run_eql_iface_nil_left (P := Tryz.prog) w 160 (.pointer (some b)) Tryz.underlying90
  go_enter Tryz.func42, Tryz.ntmps42
  go_wp2
  go_ret
  exact ⟨rfl, rfl⟩

set_option maxHeartbeats 1000000 in
set_option maxRecDepth 100000 in
/-- Another error of errors.New's make. -/
theorem isErr_other (a b : Addr) (ca cb : Array Value) (ta tb : TypeId) (w : World) (hne : a ≠ b) (ha : w.heap[a.block]? = some (.cells ca ta (0, 0))) (hb : w.heap[b.block]? = some (.cells cb tb (0, 0))) :
    Calls Tryz.prog 42 #[.iface 160 (.pointer (some a)), .iface 160 (.pointer (some b))] w fun e w' => e = .returned (.bool false) ∧ w' = w := by
  obtain ⟨i, hi, hcmp⟩ := Option.map_eq_some_iff.1 infoErrP
  obtain ⟨j, hj, hjs⟩ := Option.map_eq_some_iff.1 infoErrS
  have hT := @run_callFunc_extern Tryz.prog 68 _ Extern.ReflectliteType.typeOf Tryz.func68 (by kernel_rfl) (by kernel_rfl) (by kernel_rfl) (by kernel_rfl)
  obtain ⟨E, hE, cT⟩ := Option.map_eq_some_iff.1 (reflComparable w)
  have hC := @run_callFunc_extern Tryz.prog 123 _ E Tryz.func123 (by kernel_rfl) (by kernel_rfl) (by kernel_rfl) hE
  have tT := reflTypeOf
  have mR := reflMethod
  have nE := fun (v : Value) (xT : TypeId) (w : World) => (show (Instr.typeAssert (.iface 160 v) xT 140 true).run Tryz.prog w = .ok (.tuple #[.nilIface, .bool false]) w from run_typeAssert_lacksB Tryz.underlying140 (by kernel_rfl) (by kernel_rfl) v xT w)
  have uE := fun (v : Value) (xT : TypeId) (w : World) => (show (Instr.typeAssert (.iface 160 v) xT 143 true).run Tryz.prog w = .ok (.tuple #[.nilIface, .bool false]) w from run_typeAssert_lacksB Tryz.underlying143 (by kernel_rfl) (by kernel_rfl) v xT w)
  have vE := fun (v : Value) (xT : TypeId) (w : World) => (show (Instr.typeAssert (.iface 160 v) xT 145 true).run Tryz.prog w = .ok (.tuple #[.nilIface, .bool false]) w from run_typeAssert_lacksB Tryz.underlying145 (by kernel_rfl) (by kernel_rfl) v xT w)
  have heq := run_eql_iface_ptr_other (P := Tryz.prog) w Tryz.underlying90 Tryz.underlying160 hi hcmp hj (by rw [hjs]; decide) hne ha hb
  go_enter Tryz.func42, Tryz.ntmps42
  go_wp2
  refine wp_loop_rounds 1 ?_
  rw [rounds_succ]
  go_wp2
  go_ret
  exact ⟨rfl, rfl⟩

end Go.Proofs.YtmlnakkfjecibaaGreatDoor

/-
  What the rows' lists of variables give: the program's two errors are two errors of errors.New's make; internal/bytealg.MaxLen holds some int.
-/
namespace Go.Proofs.YtmlnakkfjecibaaGreatDoor
open Go.RowKit Go.ChangeShapes Go.WideShapes

/-- The program's two errors: two pointers to errors of errors.New's make, each in a block that holds still. -/
def CmdVars (w : World) : Prop := ∃ (a b : Addr) (ca cb : Array Value) (ta tb : TypeId),
  w.cell? ⟨1, 0, none⟩ = some (.iface 160 (.pointer (some a))) ∧ w.cell? ⟨0, 0, none⟩ = some (.iface 160 (.pointer (some b))) ∧ a ≠ b ∧
    w.heap[a.block]? = some (.cells ca ta (0, 0)) ∧ w.heap[b.block]? = some (.cells cb tb (0, 0))

theorem heap_kept {w w' : World} (hb : Below w.heap.size w w') {n : Nat} {o : Obj} (h : w.heap[n]? = some o) : w'.heap[n]? = some o := by
  have hlt : n < w.heap.size := by
    rcases Nat.lt_or_ge n w.heap.size with h' | h'
    · exact h'
    · rw [Array.getElem?_eq_none h'] at h; cases h
  exact (hb.block n hlt).trans h

theorem CmdVars.keep {w w' : World} (h : CmdVars w) (hb : Below w.heap.size w w') : CmdVars w' := by
  obtain ⟨a, b, ca, cb, ta, tb, h1, h2, h3, h4, h5⟩ := h
  exact ⟨a, b, ca, cb, ta, tb, cell_kept hb h1, cell_kept hb h2, h3, heap_kept hb h4, heap_kept hb h5⟩

def isErr {H : Type} : DataW H → Bool
  | .iface nm (.ptr (.agg [.lit (.string _)])) => nm == "*errors.errorString"
  | _ => false

theorem isErr_inv {H : Type} {d : DataW H} (h : isErr d = true) : ∃ text, d = .iface "*errors.errorString" (.ptr (.agg [.lit (.string text)])) := by
  unfold isErr at h
  split at h
  · rename_i nm text
    exact ⟨text, by rw [eq_of_beq h]⟩
  · cases h

/-- What a variable of the list reads as, and over which places. -/
def Reads (P : Program) (W : World) (x : String × DataW Unit) (g : Nat) (cs : Array Value) (p : List MemPlace) : Prop :=
  ∃ t fuel, P.globalNamed x.1 = some g ∧ (P.globals[g]?).map (·.type) = some t ∧ W.var? P x.1 = some cs ∧ DataW.trod (fun _ => ()) P W 0 (fun _ => true) false fuel t cs.toList = some (x.2, p)

theorem laid_in {P : Program} {W : World} : ∀ (laid : List (String × DataW Unit)) (ps : List MemPlace), DataW.LaidVars P W laid ps → ∀ x ∈ laid,
    ∃ g cs p, Reads P W x g cs p ∧ (∀ z ∈ MemPlace.row ⟨g, 0, none⟩ cs.size, z ∈ ps) ∧ (∀ z ∈ p, z ∈ ps)
  | [], ps, _, x, hx => by cases hx
  | (n, d) :: r, ps, h, x, hx => by
    obtain ⟨g, t, cs, fuel, p, q, h1, h2, h3, h4, h5, rfl⟩ := h
    rcases List.mem_cons.1 hx with rfl | hx
    · exact ⟨g, cs, p, ⟨t, fuel, h1, h2, h3, h4⟩, fun z hz => by simp [hz], fun z hz => by simp [hz]⟩
    · obtain ⟨g', cs', p', hr, h6, h7⟩ := laid_in r q h5 x hx
      exact ⟨g', cs', p', hr, fun z hz => by simp [h6 z hz], fun z hz => by simp [h7 z hz]⟩

theorem laid_two {P : Program} {W : World} : ∀ (laid : List (String × DataW Unit)) (ps : List MemPlace), DataW.LaidVars P W laid ps → ps.Nodup → ∀ x ∈ laid, ∀ y ∈ laid, x.1 ≠ y.1 →
    ∃ g cs p g' cs' p', Reads P W x g cs p ∧ Reads P W y g' cs' p' ∧ (∀ z ∈ MemPlace.row ⟨g, 0, none⟩ cs.size, z ∈ ps) ∧ (∀ z ∈ p, z ∈ ps) ∧ (∀ z ∈ MemPlace.row ⟨g', 0, none⟩ cs'.size, z ∈ ps) ∧ (∀ z ∈ p', z ∈ ps) ∧ (∀ z ∈ p, z ∉ p')
  | [], ps, _, _, x, hx, _, _, _ => by cases hx
  | (n, d) :: r, ps, h, hnd, x, hx, y, hy, hne => by
    obtain ⟨g, t, cs, fuel, p, q, h1, h2, h3, h4, h5, rfl⟩ := h
    have hq : q.Nodup := (List.nodup_append.1 hnd).2.1
    have hpq : ∀ z ∈ p, z ∉ q := fun z hz hz' => (List.nodup_append.1 hnd).2.2 z (by simp [hz]) z hz' rfl
    rcases List.mem_cons.1 hx with rfl | hx
    · rcases List.mem_cons.1 hy with rfl | hy
      · exact absurd rfl hne
      · obtain ⟨g', cs', p', hr, h6, h7⟩ := laid_in r q h5 y hy
        exact ⟨g, cs, p, g', cs', p', ⟨t, fuel, h1, h2, h3, h4⟩, hr, fun z hz => by simp [hz], fun z hz => by simp [hz], fun z hz => by simp [h6 z hz], fun z hz => by simp [h7 z hz], fun z hz hz' => hpq z hz (h7 z hz')⟩
    · rcases List.mem_cons.1 hy with rfl | hy
      · obtain ⟨g', cs', p', hr, h6, h7⟩ := laid_in r q h5 x hx
        exact ⟨g', cs', p', g, cs, p, hr, ⟨t, fuel, h1, h2, h3, h4⟩, fun z hz => by simp [h6 z hz], fun z hz => by simp [h7 z hz], fun z hz => by simp [hz], fun z hz => by simp [hz], fun z hz hz' => hpq z hz' (h7 z hz)⟩
      · obtain ⟨g', cs', p', g'', cs'', p'', hr1, hr2, a1, a2, a3, a4, a5⟩ := laid_two r q h5 hq x hx y hy hne
        exact ⟨g', cs', p', g'', cs'', p'', hr1, hr2, fun z hz => by simp [a1 z hz], fun z hz => by simp [a2 z hz], fun z hz => by simp [a3 z hz], fun z hz => by simp [a4 z hz], a5⟩

theorem errStar : "*" ++ "errors.errorString" = "*errors.errorString" := by decide

set_option maxRecDepth 100000 in
theorem errRow (u : TypeId) (h : Tryz.prog.typeName? 3 u = some "*errors.errorString") : u = 160 :=
  typeName_ptr_named (nm := "errors.errorString") (by rw [errStar]; kernel_rfl) (by kernel_rfl) (by decide) u (by rw [errStar]; exact h)

theorem errCells : Tryz.prog.cellsOf 184 = 1 := by kernel_rfl
theorem strCells : Tryz.prog.cellsOf 9 = 1 := by kernel_rfl

set_option maxRecDepth 100000 in
/-- A variable that reads as an error of errors.New's make. -/
theorem err_read {W : World} {x : String × DataW Unit} {g g0 : Nat} {cs : Array Value} {p : List MemPlace} (hx : isErr x.2 = true) (hr : Reads Tryz.prog W x g cs p)
    (hg : Tryz.prog.globalNamed x.1 = some g0) (ht : (Tryz.prog.globals[g0]?).map (·.type) = some 90)
    (hok : ∀ u v, W.cell? ⟨g, 0, none⟩ = some (.iface u v) → MemPlace.cell g 0 ∈ MemPlace.row ⟨g, 0, none⟩ cs.size → Value.okWide Tryz.prog W .any 0 u v) :
    ∃ a, W.cell? ⟨g0, 0, none⟩ = some (.iface 160 (.pointer (some a))) ∧ MemPlace.cell a.block a.off ∈ p := by
  obtain ⟨t, fuel, h1, h2, h3, h4⟩ := hr
  obtain rfl := Option.some.inj (hg.symm.trans h1)
  obtain rfl := Option.some.inj (ht.symm.trans h2)
  obtain ⟨text, hd⟩ := isErr_inv hx
  rw [hd] at h4
  obtain ⟨l⟩ := cs
  have hc0 := World.var?_cell h1 h3 0
  obtain ⟨a, s, hl, -, -, -, rfl⟩ := errorString_of_trod Tryz.underlying90 errRow Tryz.underlying160 Tryz.underlying184 rfl rfl Tryz.underlying9 errCells strCells h4
    (fun u v e => hok u v (by rw [hc0]; simp at e; rw [e]; rfl) (by simp at e; rw [e]; simp [MemPlace.row]))
  refine ⟨a, ?_, by simp [MemPlace.row]⟩
  rw [hc0]
  simp at hl
  rw [hl]
  rfl

theorem find_mem {laid : List (String × DataW Unit)} {name : String} (h : (laid.find? (fun x => x.1 == name)).map (fun x => isErr x.2) = some true) : ∃ x ∈ laid, x.1 = name ∧ isErr x.2 = true := by
  cases hx : laid.find? (fun x => x.1 == name) with
  | none => rw [hx] at h; cases h
  | some x =>
    rw [hx] at h
    exact ⟨x, List.mem_of_find?_eq_some hx, by simpa using List.find?_some hx, by simpa using h⟩

set_option maxRecDepth 100000 in
theorem cmdVars_of {W : World} {laid : List (String × DataW Unit)} (h : laidMetH Tryz.prog laid W) (hp : (laid.all fun x => x.2.handleName?.isNone) = true)
    (h1 : (laid.find? (fun x => x.1 == "loop.example/filereconciler/impl.errInvalid")).map (fun x => isErr x.2) = some true) (h2 : (laid.find? (fun x => x.1 == "loop.example/filereconciler/impl.errBreaks")).map (fun x => isErr x.2) = some true) : CmdVars W := by
  rw [MakeChecks.laidMetH_plain _ _ _ hp] at h
  obtain ⟨ps, hv, hnd, hrows⟩ := h
  obtain ⟨x, hx, nx, ex⟩ := find_mem h1
  obtain ⟨y, hy, ny, ey⟩ := find_mem h2
  obtain ⟨g, cs, p, g', cs', p', r1, r2, a1, a2, a3, a4, a5⟩ := laid_two laid ps hv hnd x hx y hy (by rw [nx, ny]; decide)
  obtain ⟨a, c1, m1⟩ := err_read (g0 := 1) ex r1 (by rw [nx]; kernel_rfl) (by kernel_rfl) (fun u v e hm => (hrows g 0 (a1 _ hm)).2 u v e)
  obtain ⟨b, c2, m2⟩ := err_read (g0 := 0) ey r2 (by rw [ny]; kernel_rfl) (by kernel_rfl) (fun u v e hm => (hrows g' 0 (a3 _ hm)).2 u v e)
  obtain ⟨ca, ta, ha⟩ := (hrows a.block a.off (a2 _ m1)).1
  obtain ⟨cb, tb, hb⟩ := (hrows b.block b.off (a4 _ m2)).1
  refine ⟨a, b, ca, cb, ta, tb, c1, c2, ?_, ha, hb⟩
  rintro rfl
  exact a5 _ m1 m2

end Go.Proofs.YtmlnakkfjecibaaGreatDoor

/-
  TEXTS OF PLACES: what stands ahead of a name (strings.TrimSuffix of a slash, and a slash).
-/
namespace Go.Proofs.YtmlnakkfjecibaaGreatDoor
open Go.RowKit

def begB (v : List UInt8) : ByteArray := if v = [] then ⟨#[47]⟩ else pB v ++ ⟨#[47]⟩

theorem begB_name (v : List UInt8) (c : UInt8) : begB v ++ ⟨#[c]⟩ = pB (v ++ [c]) := by
  unfold begB
  by_cases h : v = []
  · rw [if_pos h, h]; rfl
  · rw [if_neg h]
    apply ByteArray.ext
    apply Array.ext'
    simp only [ByteArray.data_append, Array.toList_append]
    rw [pB_list, pB_list]
    unfold Pm.pathOf
    rw [if_neg h, if_neg (by simp), Pm.flat_append, List.append_assoc]
    rfl

theorem pB_last {v : List UInt8} (hv : Wrd v) (hn : v ≠ []) : ∃ m c, (pB v).size = m + 1 ∧ ((pB v).extract m (m + 1)).toList = [c] ∧ c ≠ 47 := by
  have e := Pm.flat_last v hn
  have hs : (pB v).data.toList = Pm.flat v.dropLast ++ [47, v.getLast hn] := by
    rw [pB_list]; unfold Pm.pathOf; rw [if_neg hn]; exact e
  have hz : (pB v).size = (Pm.flat v.dropLast ++ [47, v.getLast hn]).length := by rw [← hs]; rfl
  refine ⟨(Pm.flat v.dropLast).length + 1, v.getLast hn, by rw [hz]; simp, ?_, Pm.letter_not_47 (hv.2 _ (List.getLast_mem hn))⟩
  rw [Lib.toList_data, ByteArray.data_extract, Array.toList_extract, hs]
  simp [List.extract_eq_take_drop]

set_option maxHeartbeats 400000 in
set_option maxRecDepth 100000 in
theorem hasSuffix_word {v : List UInt8} (hv : Wrd v) (hn : v ≠ []) (w : World) :
    Calls Tryz.prog 86 #[.string (pB v), .string ⟨#[47]⟩] w fun e w' => e = .returned (.bool false) ∧ w' = w := by
  obtain ⟨m, c, h1, h2, h3⟩ := pB_last hv hn
  have hmax : m ≤ 7 := by
    have : (pB v).size ≤ 8 := by
      show (Pm.pathOf v).length ≤ 8
      unfold Pm.pathOf; rw [if_neg hn, Pm.flat_length]; have := hv.1; omega
    omega
  obtain ⟨s, hs⟩ : ∃ s, s = pB v := ⟨_, rfl⟩
  rw [← hs] at h1 h2 ⊢
  clear hs
  have e1 : ((m : Int) + 1 - 1).toNat = m := by omega
  have e2 : (c == 47) = false := by simpa using h3
  have e3 : (1 : Int) ≤ m + 1 := by omega
  clear h3
  go_enter Tryz.func86, Tryz.ntmps86
  go_wp2
  go_ret
  exact ⟨rfl, rfl⟩

set_option maxHeartbeats 400000 in
set_option maxRecDepth 100000 in
theorem hasSuffix_root (w : World) :
    Calls Tryz.prog 86 #[.string ⟨#[47]⟩, .string ⟨#[47]⟩] w fun e w' => e = .returned (.bool true) ∧ w' = w := by
  have h : (((⟨#[47]⟩ : ByteArray).extract 0 1).toList == [47]) = true := by rw [Lib.toList_data]; rfl
  go_enter Tryz.func86, Tryz.ntmps86
  go_wp2
  go_ret
  exact ⟨rfl, rfl⟩

set_option maxHeartbeats 400000 in
set_option maxRecDepth 100000 in
theorem slTrim_c {v : List UInt8} (hv : Wrd v) (w : World) :
    Calls Tryz.prog 75 #[.string (pB v), .string ⟨#[47]⟩] w fun e w' => e = .returned (.string (if v = [] then ⟨#[]⟩ else pB v)) ∧ w' = w := by
  by_cases hn : v = []
  · subst hn
    rw [if_pos rfl]
    have hc := fun w => hasSuffix_root w
    show Calls Tryz.prog 75 #[.string ⟨#[47]⟩, .string ⟨#[47]⟩] w _
    go_enter Tryz.func75, Tryz.ntmps75
    go_wp2_with (go_at_call 86; refine (hc _).mono ?_; rintro e w' ⟨rfl, rfl⟩)
    go_ret
    exact ⟨rfl, rfl⟩
  · rw [if_neg hn]
    have hc := fun w => hasSuffix_word hv hn w
    generalize pB v = s at hc ⊢
    go_enter Tryz.func75, Tryz.ntmps75
    go_wp2_with (go_at_call 86; refine (hc _).mono ?_; rintro e w' ⟨rfl, rfl⟩)
    go_ret
    exact ⟨rfl, rfl⟩

set_option maxHeartbeats 400000 in
set_option maxRecDepth 100000 in
theorem trim_c {v : List UInt8} (hv : Wrd v) (w : World) :
    Calls Tryz.prog 48 #[.string (pB v), .string ⟨#[47]⟩] w fun e w' => e = .returned (.string (if v = [] then ⟨#[]⟩ else pB v)) ∧ w' = w := by
  have hc := fun w => slTrim_c hv w
  generalize pB v = s at hc ⊢
  generalize (if v = [] then (⟨#[]⟩ : ByteArray) else s) = t at hc ⊢
  go_enter Tryz.func48, Tryz.ntmps48
  go_wp2_with (go_at_call 75; refine (hc _).mono ?_; rintro e w' ⟨rfl, rfl⟩)
  go_ret
  exact ⟨rfl, rfl⟩

theorem beg_eq (v : List UInt8) : (if v = [] then (⟨#[]⟩ : ByteArray) else pB v) ++ ⟨#[47]⟩ = begB v := by
  unfold begB; split <;> rfl

end Go.Proofs.YtmlnakkfjecibaaGreatDoor

/-
  WALKS: the nodes behind a place (impl.place.nodes).
-/
namespace Go.Proofs.YtmlnakkfjecibaaGreatDoor
open Go.RowKit
set_option linter.unusedVariables false

/-- What is behind one letter. -/
def part (F : List UInt8 → Int × Int) (d : Nat) (w : List UInt8) (c : UInt8) : List Nd := oneAt F (w ++ [c]) ++ lst F d (w ++ [c])
def accN (F : List UInt8 → Int × Int) (d : Nat) (w : List UInt8) (n : Nat) : List Nd := (letters.take n).flatMap (part F d w)

theorem accN_four (F : List UInt8 → Int × Int) (d : Nat) (w : List UInt8) : accN F d w 4 = lst F (d + 1) w := rfl

theorem lst_len (F : List UInt8 → Int × Int) : ∀ (d : Nat) (w : List UInt8), (lst F d w).length + 1 ≤ 8 ^ d
  | 0, _ => by simp [lst]
  | d + 1, w => by
    have ho : ∀ u, (oneAt F u).length ≤ 1 := fun u => by unfold oneAt; split <;> simp
    have h1 := lst_len F d (w ++ [97])
    have h2 := lst_len F d (w ++ [98])
    have h3 := lst_len F d (w ++ [99])
    have h4 := lst_len F d (w ++ [100])
    have o1 := ho (w ++ [97])
    have o2 := ho (w ++ [98])
    have o3 := ho (w ++ [99])
    have o4 := ho (w ++ [100])
    have e : (lst F (d + 1) w).length = ((oneAt F (w ++ [97])).length + (lst F d (w ++ [97])).length) + (((oneAt F (w ++ [98])).length + (lst F d (w ++ [98])).length) + (((oneAt F (w ++ [99])).length + (lst F d (w ++ [99])).length) + ((oneAt F (w ++ [100])).length + (lst F d (w ++ [100])).length))) := by
      rw [show lst F (d + 1) w = letters.flatMap (part F d w) from rfl]
      unfold letters
      simp only [List.flatMap_cons, List.flatMap_nil, List.length_append, List.length_nil, Nat.add_zero]
      unfold part
      simp only [List.length_append]
    rw [e, Nat.pow_succ]
    have : 1 ≤ 8 ^ d := Nat.one_le_pow _ _ (by omega)
    omega

theorem lst_le {F : List UInt8 → Int × Int} {d : Nat} (hd : d ≤ 4) (w : List UInt8) : (lst F d w).length ≤ 4096 := by
  have h := lst_len F d w
  have : 8 ^ d ≤ 8 ^ 4 := Nat.pow_le_pow_right (by omega) hd
  omega

theorem accN_le {F : List UInt8 → Int × Int} {d : Nat} (hd : d < 4) (w : List UInt8) (n : Nat) : (accN F d w n).length ≤ 4096 := by
  have h : (accN F d w n).length ≤ (lst F (d + 1) w).length := by
    unfold accN
    rw [show lst F (d + 1) w = (letters.take n ++ letters.drop n).flatMap (part F d w) by rw [List.take_append_drop]; rfl, List.flatMap_append, List.length_append]
    omega
  have := lst_le (F := F) (show d + 1 ≤ 4 by omega) w
  omega

theorem accN_next (F : List UInt8 → Int × Int) (d : Nat) (w : List UInt8) {n : Nat} (hn : n < 4) : accN F d w (n + 1) = accN F d w n ++ part F d w (UInt8.ofNat (97 + n)) := by
  rcases (by omega : n = 0 ∨ n = 1 ∨ n = 2 ∨ n = 3) with rfl | rfl | rfl | rfl <;> simp [accN, letters] <;> rfl

theorem oneAt_zero {F : List UInt8 → Int × Int} {u : List UInt8} (h : (F u).1 = 0) : oneAt F u = [] := if_pos h
theorem oneAt_some {F : List UInt8 → Int × Int} {u : List UInt8} (h : (F u).1 ≠ 0) : oneAt F u = [ndAt F u] := if_neg h

theorem none_down {W : World} {A : List UInt8 → Option Nat} {F : List UInt8 → Int × Int} (h : Trie W A F) {w : List UInt8} (hn : A w = none) : ∀ u, A (w ++ u) = none := by
  intro u
  generalize hl : u.length = n
  induction n generalizing u with
  | zero => rw [List.length_eq_zero_iff.1 hl, List.append_nil]; exact hn
  | succ n ih =>
    have hu : u ≠ [] := fun e => by rw [e] at hl; cases hl
    have e := List.dropLast_concat_getLast hu
    rw [← e, ← List.append_assoc]
    exact h.up _ _ (ih _ (by rw [List.length_dropLast, hl]; rfl))

theorem part_none {W : World} {A : List UInt8 → Option Nat} {F : List UInt8 → Int × Int} (h : Trie W A F) {w : List UInt8} (hw : Wrd w) {d : Nat} (hd : w.length + (d + 1) ≤ 4) {c : UInt8} (hc : Pm.letter c = true) (hn : A (w ++ [c]) = none) : part F d w c = [] := by
  have hz : ∀ u, Wrd (w ++ [c] ++ u) → F (w ++ [c] ++ u) = (0, 0) := fun u hu => h.nil _ hu (none_down h hn u)
  have hwc : ∀ u, u.length ≤ d → (∀ x ∈ u, Pm.letter x = true) → Wrd (w ++ [c] ++ u) := fun u hu hl => ⟨by simp; omega, fun x hx => by
    rcases List.mem_append.1 hx with hx | hx
    · rcases List.mem_append.1 hx with hx | hx
      · exact hw.2 x hx
      · rw [List.mem_singleton.1 hx]; exact hc
    · exact hl x hx⟩
  unfold part
  rw [oneAt_zero, List.nil_append, List.eq_nil_iff_forall_not_mem]
  · intro x hx
    obtain ⟨c', u, h1, h2, h3, _⟩ := mem_lst.1 hx
    rw [hz (c' :: u) (hwc _ (by rw [List.length_cons]; omega) h2)] at h3
    exact h3 rfl
  · have := hz [] (hwc [] (by simp) (by simp))
    rw [List.append_nil] at this
    rw [this]

theorem letter_nth {n : Nat} (hn : n < 4) : Pm.letter (UInt8.ofNat (97 + n)) = true := by
  rcases (by omega : n = 0 ∨ n = 1 ∨ n = 2 ∨ n = 3) with rfl | rfl | rfl | rfl <;> decide

set_option maxHeartbeats 1000000 in
set_option maxRecDepth 100000 in
theorem index4 (a0 a1 a2 a3 : Option Nat) (W : World) : (Instr.index 68 (.agg #[ptrTo a0, ptrTo a1, ptrTo a2, ptrTo a3]) (.int .i64 0)).run Tryz.prog W = .ok (ptrTo a0) W ∧ (Instr.index 68 (.agg #[ptrTo a0, ptrTo a1, ptrTo a2, ptrTo a3]) (.int .i64 1)).run Tryz.prog W = .ok (ptrTo a1) W
    ∧ (Instr.index 68 (.agg #[ptrTo a0, ptrTo a1, ptrTo a2, ptrTo a3]) (.int .i64 2)).run Tryz.prog W = .ok (ptrTo a2) W ∧ (Instr.index 68 (.agg #[ptrTo a0, ptrTo a1, ptrTo a2, ptrTo a3]) (.int .i64 3)).run Tryz.prog W = .ok (ptrTo a3) W := by
  have h : Tryz.prog.underlying 68 = some (.array 4 62) := by kernel_rfl
  refine ⟨?_, ?_, ?_, ?_⟩ <;> simp [Instr.index, asIntOf, run_underlying h, go_sem, ptrTo]

theorem indexKid (A : List UInt8 → Option Nat) (w : List UInt8) {n : Nat} (hn : n < 4) (W : World) :
    (Instr.index 68 (.agg #[ptrTo (A (w ++ [97])), ptrTo (A (w ++ [98])), ptrTo (A (w ++ [99])), ptrTo (A (w ++ [100]))]) (.int .i64 n)).run Tryz.prog W = .ok (ptrTo (A (w ++ [UInt8.ofNat (97 + n)]))) W := by
  obtain ⟨h0, h1, h2, h3⟩ := index4 (A (w ++ [97])) (A (w ++ [98])) (A (w ++ [99])) (A (w ++ [100])) W
  rcases (by omega : n = 0 ∨ n = 1 ∨ n = 2 ∨ n = 3) with rfl | rfl | rfl | rfl
  · exact h0
  · exact h1
  · exact h2
  · exact h3

theorem indexNone {n : Nat} (hn : n < 4) (W : World) :
    (Instr.index 68 (.agg #[.pointer none, .pointer none, .pointer none, .pointer none]) (.int .i64 n)).run Tryz.prog W = .ok (.pointer none) W := by
  obtain ⟨h0, h1, h2, h3⟩ := index4 none none none none W
  rcases (by omega : n = 0 ∨ n = 1 ∨ n = 2 ∨ n = 3) with rfl | rfl | rfl | rfl
  · exact h0
  · exact h1
  · exact h2
  · exact h3

theorem encode_nth {n : Nat} (hn : n < 4) : Utf8.encode (97 + (n : Int)) = ⟨#[UInt8.ofNat (97 + n)]⟩ := by
  rcases (by omega : n = 0 ∨ n = 1 ∨ n = 2 ∨ n = 3) with rfl | rfl | rfl | rfl <;> rfl

theorem flatN_one_cell (ns : List Nd) : ∀ u ∈ flatN ns, u.oneCell' = true := by
  intro u hu
  unfold flatN at hu
  obtain ⟨n, _, hn⟩ := List.mem_flatMap.1 hu
  simp at hn
  rcases hn with rfl | rfl | rfl <;> rfl

theorem own_cells {W : World} {base : Nat} {e : TypeId} {ns : List Nd} {g cap : Nat} (h : W.ownsRow base e 3 (.slice (some ⟨g, 0, none⟩) ns.length cap) ns.length (flatN ns)) :
    ∀ j u, (flatN ns)[j]? = some u → W.cell? ((⟨g, 0, none⟩ : Addr).add j) = some u := by
  intro j u hj
  have hl := flatN_length ns
  have hj' := (List.getElem?_eq_some_iff.1 hj).1
  have := h.cellAt j (by omega)
  have e2 : ((⟨g, 0, none⟩ : Addr).add j) = ⟨g, j, none⟩ := by
    unfold Addr.add
    split
    · rename_i h0; rw [h0]
    · simp
  rw [e2]
  exact this.trans hj

theorem own_join {W : World} {b : Nat} {e : TypeId} {v : Value} {acc more : List Nd} (h : W.ownsRow b e 3 v (acc.length + more.length) (flatN acc ++ flatN more)) : W.ownsRow b e 3 v (acc ++ more).length (flatN (acc ++ more)) := by
  rw [flatN_append, List.length_append]; exact h

theorem own_cases {W : World} {base : Nat} {e : TypeId} {size n : Nat} {v : Value} {xs : List Value} (h : W.ownsRow base e size v n xs) : (v = .slice none 0 0 ∧ n = 0) ∨ ∃ g cap, v = .slice (some ⟨g, 0, none⟩) n cap := by
  rcases h.2 with h | ⟨g, cap, _, h, _⟩
  · exact .inl h
  · exact .inr ⟨g, cap, h⟩

/-- What nodes returns. -/
def NodesPost (F : List UInt8 → Int × Int) (d : Nat) (w : List UInt8) (W : World) (e : Ending) (W' : World) : Prop := OwnsNodes W.heap.size (lst F d w) e W' ∧ Below W.heap.size W W'

def NodesRel (F : List UInt8 → Int × Int) (d : Nat) (w : List UInt8) (W : World) (o i : Value) (wr : World) : Prop :=
  ∃ n : Nat, i = .int .i64 n ∧ n ≤ 4 ∧ wr.ownsRow W.heap.size 57 3 o (accN F d w n).length (flatN (accN F d w n)) ∧ Hid (Below W.heap.size W wr)

set_option maxHeartbeats 2000000 in
set_option maxRecDepth 100000 in
theorem nodes_c (A : List UInt8 → Option Nat) (F : List UInt8 → Int × Int) (d : Nat) : ∀ (w : List UInt8) (b : Nat) (W : World), w.length + d = 4 → Trie W A F → A w = some b →
    Calls Tryz.prog 26 #[.pointer (some ⟨b, 0, none⟩), .string (pB w)] W (NodesPost F d w W) := by
  induction d with
  | zero =>
    intro w b W hwd hT hb
    have hw := hT.wrd w b hb
    have hnone : ∀ c, A (w ++ [c]) = none := fun c => by
      cases h : A (w ++ [c]) with
      | none => rfl
      | some x =>
        have := (hT.wrd _ _ h).1
        rw [List.length_append, List.length_singleton] at this
        omega
    have hc := fun W => trim_c hw W
    have hbeg := beg_eq w
    have hts : (if w = [] then (⟨#[]⟩ : ByteArray) else pB w).size ≤ 8 := by
      split
      · decide
      · show (Pm.pathOf w).length ≤ 8
        unfold Pm.pathOf
        split
        · simp
        · rw [Pm.flat_length]; omega
    generalize (if w = [] then (⟨#[]⟩ : ByteArray) else pB w) = tr at hc hbeg hts
    generalize hp : pB w = p at hc ⊢
    have c0 := hT.cell hb 2
    have c1 := hT.cell hb 3
    have c2 := hT.cell hb 4
    have c3 := hT.cell hb 5
    simp only [plc, hnone, ptrTo] at c0 c1 c2 c3
    simp at c0 c1 c2 c3
    have HT := Lib.hid hT
    clear hp hT hb
    go_enter Tryz.func26, Tryz.ntmps26
    go_wp2_with (go_at_call 48; refine (hc _).mono ?_; rintro e w' ⟨rfl, rfl⟩)
    go_loop [5, 17] (fun o i => o = .slice none 0 0 ∧ ∃ n : Nat, i = .int .i64 n ∧ n ≤ 4) (fun _ i => 4 - (intOf i).toNat)
    case atStart => exact ⟨rfl, 0, rfl, by omega⟩
    case round =>
      obtain ⟨rfl, n, rfl, hn⟩ := hrel
      by_cases h4 : n = 4
      · subst h4
        go_wp2
        refine bodyPost_ret (v := .slice none 0 0) (by simp [results, Tryz.f26, go_sem]) rfl ⟨⟨.slice none 0 0, rfl, World.ownsRow_nil _ _ _ _⟩, Below.refl _ _⟩
      · have hni : (n : Int) < 4 := by omega
        have hni0 : (0 : Int) ≤ n := by omega
        have hidx := fun W => indexNone (show n < 4 by omega) W
        go_wp2
        go_round
        case rel => exact ⟨rfl, n + 1, by push_cast; rfl, by omega⟩
        case measure => simp [intOf]; omega
  | succ d ih =>
  intro w b W hwd hT hb
  obtain ⟨i0, hi, hz0, hz1, hz2⟩ := info_parts infoNode
  have hw := hT.wrd w b hb
  have HT := Lib.hid hT
  have HB := Lib.hid hb
  have HI := Lib.hid ih
  have hc := fun W => trim_c hw W
  have hbeg := beg_eq w
  have hts : (if w = [] then (⟨#[]⟩ : ByteArray) else pB w).size ≤ 8 := by
    split
    · decide
    · show (Pm.pathOf w).length ≤ 8
      unfold Pm.pathOf
      split
      · simp
      · rw [Pm.flat_length]; omega
  have hbs : (begB w).size ≤ 9 := by rw [← hbeg, ByteArray.size_append]; show _ + 1 ≤ 9; omega
  generalize (if w = [] then (⟨#[]⟩ : ByteArray) else pB w) = tr at hc hbeg hts
  generalize hp : pB w = p at hc ⊢
  have c0 := hT.cell hb 2
  have c1 := hT.cell hb 3
  have c2 := hT.cell hb 4
  have c3 := hT.cell hb 5
  simp [plc] at c0 c1 c2 c3
  clear hp hT hb ih
  go_enter Tryz.func26, Tryz.ntmps26
  go_wp2_with (go_at_call 48; refine (hc _).mono ?_; rintro e w' ⟨rfl, rfl⟩)

  have HBS := Lib.hid hbs
  clear hbeg hts hbs hc
  go_loopw [5, 17] (fun o i wr => NodesRel F d w w' o i wr) (fun _ i _ => 4 - (intOf i).toNat)
  case atStart => exact ⟨0, rfl, by omega, World.ownsRow_nil _ _ _ _, Below.refl _ _⟩
  case round =>
    obtain ⟨n, rfl, hn, hown, hB⟩ := hrel
    by_cases h4 : n = 4
    · subst h4
      go_wp2
      refine bodyPost_ret (v := u5) (by simp [results, Tryz.f26, go_sem]) rfl ⟨⟨u5, rfl, ?_⟩, hB⟩
      rw [← accN_four]; exact hown
    · have hn4 : n < 4 := by omega
      have hni : (n : Int) < 4 := by omega
      have hni0 : (0 : Int) ≤ n := by omega
      have hidx := fun W => indexKid A w hn4 W
      cases hk : A (w ++ [UInt8.ofNat (97 + n)]) with
      | none =>
        have hidx2 := fun W => (hidx W).trans (show _ = Result.ok (.pointer none) W by rw [hk]; rfl)
        clear hidx
        go_wp2
        go_roundw
        case rel =>
          refine ⟨n + 1, by push_cast; rfl, by omega, ?_, hB⟩
          rw [accN_next F d w hn4, part_none HT.out hw (by omega) (letter_nth hn4) hk, List.append_nil]; exact hown
        case measure => simp [intOf]; omega
      | some b' =>
        have hidx2 := fun W => (hidx W).trans (show _ = Result.ok (.pointer (some ⟨b', 0, none⟩)) W by rw [hk]; rfl)
        clear hidx
        have HL1 := Lib.hid (accN_le (F := F) (d := d) (by omega) w n)
        have henc := encode_nth hn4
        have hname := begB_name w (UInt8.ofNat (97 + n))
        have hbs := HBS.out
        have hc1 : ((⟨#[UInt8.ofNat (97 + n)]⟩ : ByteArray)).size = 1 := rfl
        have hwr : IntKind.i32.wrap (97 + (n : Int)) = 97 + n := by rw [IntKind.wrap_i32]; omega
        have hlet := letter_nth hn4
        have HACC := Lib.hid (accN_next F d w hn4)
        obtain ⟨c, hc⟩ : ∃ c, c = UInt8.ofNat (97 + n) := ⟨_, rfl⟩
        rw [← hc] at henc hname hc1 hlet HACC hk
        have HC := Lib.hid hc
        clear hc
        go_upto_region 8 with (fail)
        have HK := Lib.hid hk
        have HB2 := Lib.hid (show Wrd (w ++ [c]) from HT.out.wrd _ _ hk)
        have k0 := (HT.out.below hB.out).cell hk 0
        have k1 := (HT.out.below hB.out).cell hk 1
        simp only [plc] at k0 k1
        obtain ⟨k, hkk⟩ : ∃ k, k = (F (w ++ [c])).1 := ⟨_, rfl⟩
        obtain ⟨v, hvv⟩ : ∃ v, v = (F (w ++ [c])).2 := ⟨_, rfl⟩
        rw [← hkk] at k0
        rw [← hvv] at k1
        have k0' : wr.cell? ⟨b', 0, none⟩ = some (.int .i64 k) := k0
        have k1' : wr.cell? ⟨b', 1, none⟩ = some (.int .i64 v) := k1
        have HL2 := Lib.hid (lst_le (F := F) (d := d) (by omega) (w ++ [c]))
        clear k0 k1 hk hc1 hbs henc hidx2 hwr
        clear hname
        have HO := Lib.hid hown
        have HCALL := Lib.hid (fun W1 (hT1 : Trie W1 A F) => HI.out (w ++ [c]) b' W1 (by rw [List.length_append, List.length_singleton]; omega) hT1 HK.out)
        by_cases hk0 : k = 0
        · have hkb : (k == 0) = true := by rw [hk0]; rfl
          have HPART := Lib.hid (show part F d w c = lst F d (w ++ [c]) by unfold part; rw [oneAt_zero (by rw [← hkk]; exact hk0)]; rfl)
          subst hk0
          clear hown hkk hvv

          go_wp2_with fail
          refine (HCALL.out _ (HT.out.below hB.out)).mono ?_
          rintro e W2 ⟨⟨sl, rfl, ho2⟩, hb2⟩
          have hoa := own_below HO.out hb2
          have hB2 : Below w'.heap.size w' W2 := below_next hB.out hb2
          have H2 := Lib.hid ho2
          rcases own_cases ho2 with ⟨rfl, hz⟩ | ⟨g, cap, rfl⟩
          · have hz' : lst F d (w ++ [c]) = [] := List.length_eq_zero_iff.1 hz
            clear ho2 hb2 hz
            go_wp2_with (at_builtin; refine wpList_append_own_none rfl _ _ 23 rfl w'.heap.size 57 i0 3 Tryz.underlying23 hi _ _ _ rfl hoa rfl ?_)
            go_roundw
            case rel =>
              refine ⟨n + 1, by push_cast; rfl, by omega, ?_, hB2⟩
              rw [HACC.out, HPART.out, hz', List.append_nil]
              exact hoa
            case measure => simp [intOf]; omega
          · clear ho2 hb2
            go_wp2_with (at_builtin; refine wpList_append_own _ rfl _ _ 23 rfl w'.heap.size 57 i0 (.agg #[.string ⟨#[]⟩, .int .i64 0, .int .i64 0]) 3 32 Tryz.underlying23 hi hz0 hz1 hz2 rfl (by decide) _ _ _ rfl hoa ⟨g, 0, none⟩ _ cap (flatN (lst F d (w ++ [c]))) rfl (flatN_length _) (own_cells H2.out) (flatN_one_cell _) (by unfold maxLen; have := HL1.out; have := HL2.out; simp at this ⊢; omega) (by have := HL1.out; have := HL2.out; simp at this ⊢; omega) hB2.size ?_; intro v4 w4 ho4 hg4 hn4)
            have B4 : Below w'.heap.size w' w4 := hB2.grown hg4 hB2.size (fun g e => (hoa.lt g e).1)
            go_roundw
            case rel =>
              refine ⟨n + 1, by push_cast; rfl, by omega, ?_, B4⟩
              rw [HACC.out, HPART.out]
              exact own_join ho4
            case measure => simp [intOf]; omega

        · have hkb : (k == 0) = false := by simpa using hk0
          have HPART := Lib.hid (show part F d w c = [(⟨pB (w ++ [c]), k, v⟩ : Nd)] ++ lst F d (w ++ [c]) by unfold part; rw [oneAt_some (by rw [← hkk]; exact hk0)]; unfold ndAt; rw [← hkk, ← hvv])
          have hlt0 := hown.lt
          clear hown hkk hvv
          generalize hq : pB (w ++ [c]) = q at HCALL HPART ⊢
          go_wp2_with (at_builtin; refine wpList_append_own _ rfl _ _ 23 rfl w'.heap.size 57 i0 (.agg #[.string ⟨#[]⟩, .int .i64 0, .int .i64 0]) 3 32 Tryz.underlying23 hi hz0 hz1 hz2 rfl (by decide) _ _ _ rfl (HO.out.alloc _) ⟨wr.heap.size, 0, none⟩ 1 1 [.string q, .int .i64 k, .int .i64 v] rfl rfl (cell_three_new _ _ _ _ _) (fun x hx => by simp at hx; rcases hx with rfl | rfl | rfl <;> rfl) (by unfold maxLen; have := HL1.out; omega) (by have := HL1.out; omega) (by have := hB.out.size; simp; omega) ?_; intro v3 w3 ho3 hg3 hn3)
          have B3 : Below w'.heap.size w' w3 := (hB.out.alloc hB.out.size _).grown hg3 (by have := hB.out.size; simp; omega) (fun g e => (hlt0 g e).1)
          go_wp2_with fail
          refine (HCALL.out _ (HT.out.below B3)).mono ?_
          rintro e W2 ⟨⟨sl, rfl, ho2⟩, hb2⟩
          have hoa := own_below (own_push (⟨q, k, v⟩ : Nd) ho3) hb2
          have hB2 : Below w'.heap.size w' W2 := below_next B3 hb2
          have H2 := Lib.hid ho2
          rcases own_cases ho2 with ⟨rfl, hz⟩ | ⟨g, cap, rfl⟩
          · have hz' : lst F d (w ++ [c]) = [] := List.length_eq_zero_iff.1 hz
            clear ho2 hb2 hz
            go_wp2_with (at_builtin; refine wpList_append_own_none rfl _ _ 23 rfl w'.heap.size 57 i0 3 Tryz.underlying23 hi _ _ _ rfl hoa rfl ?_)
            go_roundw
            case rel =>
              refine ⟨n + 1, by push_cast; rfl, by omega, ?_, hB2⟩
              rw [HACC.out, HPART.out, hz', List.append_nil]
              exact hoa
            case measure => simp [intOf]; omega
          · clear ho2 hb2
            go_wp2_with (at_builtin; refine wpList_append_own _ rfl _ _ 23 rfl w'.heap.size 57 i0 (.agg #[.string ⟨#[]⟩, .int .i64 0, .int .i64 0]) 3 32 Tryz.underlying23 hi hz0 hz1 hz2 rfl (by decide) _ _ _ rfl hoa ⟨g, 0, none⟩ _ cap (flatN (lst F d (w ++ [c]))) rfl (flatN_length _) (own_cells H2.out) (flatN_one_cell _) (by unfold maxLen; have h5 := HL1.out; have h6 := HL2.out; simp at h5 h6 ⊢; omega) (by have h5 := HL1.out; have h6 := HL2.out; simp at h5 h6 ⊢; omega) hB2.size ?_; intro v4 w4 ho4 hg4 hn4)
            have B4 : Below w'.heap.size w' w4 := hB2.grown hg4 hB2.size (fun g e => (hoa.lt g e).1)
            go_roundw
            case rel =>
              refine ⟨n + 1, by push_cast; rfl, by omega, ?_, B4⟩
              rw [HACC.out, HPART.out, ← List.append_assoc]
              exact own_join ho4
            case measure => simp [intOf]; omega


end Go.Proofs.YtmlnakkfjecibaaGreatDoor

/-
  WALKS: impl.TreePut.
-/
namespace Go.Proofs.YtmlnakkfjecibaaGreatDoor
open Go.RowKit
set_option linter.unusedVariables false

theorem treePut_bad {ns : List Nd} {p : ByteArray} {k v : Int} (h : validT ns = false ∨ ¬ 1 ≤ depB p ∨ validB k v = false) : treePut ns p k v = none := by
  unfold treePut
  rcases h with h | h | h <;> simp [h]

theorem tput_nil {r : Option (List Nd)} {base : Nat} {W w : World} (hr : r = none) (hB : Below W.heap.size W w) : TPost r base W (.returned (.tuple #[.slice none 0 0, .bool false])) w :=
  ⟨_, [], false, rfl, .inr ⟨rfl, hr, rfl⟩, World.ownsRow_nil _ _ _ _, hB⟩

theorem lst_short {F : List UInt8 → Int × Int} : Short 8 (lst F 4 []) := by
  intro n hn
  obtain ⟨c, u, h1, h2, h3, rfl⟩ := mem_lst.1 hn
  exact pB_size (v := [] ++ c :: u) ⟨by rw [List.nil_append, List.length_cons]; omega, h2⟩

theorem Short.mono {m m' : Nat} {ns : List Nd} (h : Short m ns) (hm : m ≤ m') : Short m' ns := fun n hn => Nat.le_trans (h n hn) hm

set_option maxHeartbeats 4000000 in
set_option maxRecDepth 100000 in
theorem implTreePut_c (a : Option Addr) (len cap : Nat) (ns : List Nd) (p : ByteArray) (k v : Int) (hl : len ≤ 2097152) (hs : Short 2097152 ns) (hp : p.size ≤ 2097152) (W : World) (hN : NodesAt W a len ns) :
    Calls Tryz.prog 67 #[.slice a len cap, .string p, con k v] W (TPost (treePut ns p k v) W.heap.size W) := by
  have H := Lib.hid (fun W1 (hb : Below W.heap.size W W1) => treeOf_c a len cap ns hl hs W1 (hN.keep hb))
  obtain ⟨d, hd⟩ : ∃ d, depB p = d := ⟨_, rfl⟩
  have HP := Lib.hid (fun W1 => show Calls Tryz.prog 45 #[.string p] W1 (fun e w' => e = .returned (.int .i64 d) ∧ Below W1.heap.size W1 w') by rw [← hd]; exact pathDepth_c p (by omega) W1)
  have HD := Lib.hid hd
  have HVC := Lib.hid (fun W1 => implValid_c k v W1)
  obtain ⟨vb, hvb⟩ : ∃ vb, validB k v = vb := ⟨_, rfl⟩
  rw [hvb] at HVC
  have HVB := Lib.hid hvb
  clear hN hs hd hvb
  unfold con
  go_enter Tryz.func67, Tryz.ntmps67
  go_wp2_with fail
  refine (H.out _ (below_box _ _)).mono ?_
  rintro e W2 ⟨hB, h⟩
  have HB2 := Lib.hid (below_next (below_box W _) hB)
  have q0 := box_cell hB 0
  have q1 := box_cell hB 1
  simp at q0 q1
  rcases h with ⟨hv, rfl⟩ | ⟨hv, A, b, rfl, hA0, hT, hA⟩
  · have HG := Lib.hid (treePut_bad (p := p) (k := k) (v := v) (.inl hv))
    clear hv hB
    go_wp2
    refine bodyPost_ret (v := .tuple #[.slice none 0 0, .bool false]) (by simp [results, Tryz.f67, go_sem]) rfl (tput_nil HG.out HB2.out)
  · have HV := Lib.hid hv
    have HT := Lib.hid hT
    have HA := Lib.hid hA
    have HA0 := Lib.hid hA0
    have hlt2 : W.heap.size < W2.heap.size := by have := hB.size; simp at this; omega
    clear hv hB hT hA hA0
    go_wp2_with fail
    refine (HP.out _).mono ?_
    rintro e W3 ⟨rfl, hb3⟩
    have r0 := cell_kept hb3 q0
    have r1 := cell_kept hb3 q1
    have HB3 := Lib.hid (below_next HB2.out hb3)
    have HT3 := Lib.hid (HT.out.below hb3)
    have hlt3 : W.heap.size < W3.heap.size := by have := hb3.size; omega
    clear q0 q1 hb3
    by_cases hd1 : d ≤ 0
    · have HG := Lib.hid (treePut_bad (ns := ns) (p := p) (k := k) (v := v) (.inr (.inl (by rw [HD.out]; omega))))
      go_wp2
      refine bodyPost_ret (v := .tuple #[.slice none 0 0, .bool false]) (by simp [results, Tryz.f67, go_sem]) rfl (tput_nil HG.out HB3.out)
    · have hd0 : 0 < d := by omega
      have hdd : decide (d ≤ 0) = false := decide_eq_false hd1
      clear hd1
      go_wp2_with fail
      refine (HVC.out _).mono ?_
      rintro e W5 ⟨rfl, hb5⟩
      have u0 := cell_kept hb5 r0
      have u1 := cell_kept hb5 r1
      have HB5 := Lib.hid (below_next HB3.out hb5)
      have HT5 := Lib.hid (HT3.out.below hb5)
      have hN5 : W.heap.size < W5.heap.size := by have := hb5.size; omega
      clear r0 r1 hb5
      cases vb with
      | false =>
        have HG := Lib.hid (treePut_bad (ns := ns) (p := p) (k := k) (v := v) (.inr (.inr HVB.out)))
        go_wp2
        refine bodyPost_ret (v := .tuple #[.slice none 0 0, .bool false]) (by simp [results, Tryz.f67, go_sem]) rfl (tput_nil HG.out HB5.out)
      | true =>
        obtain ⟨w, hw, hpw⟩ := vpB_word (vp_of_depth (p := p) (by rw [HD.out]; omega))
        have HW := Lib.hid hw
        have HPW := Lib.hid hpw
        have HNE := Lib.hid ((word_depth hw).1 (by rw [← hpw, HD.out]; omega))
        have HAW := Lib.hid (show Away A W.heap.size from fun u e => by have := HA.out u _ e; rw [World.size_alloc] at this; omega)
        have HS0 := Lib.hid (show W5.drew.cell? ⟨W.heap.size, 0, none⟩ = some (.int .i64 k) ∧ W5.drew.cell? ⟨W.heap.size, 1, none⟩ = some (.int .i64 v) from ⟨u0, u1⟩)
        have HAT := Lib.hid (show Calls Tryz.prog 25 #[.pointer (some ⟨b, 0, none⟩), .string p] W5.drew (AtPost A (Fof ns) w W5.drew) by
          rw [hpw]; exact at_c A _ w hw W5.drew (HT5.out.kept (W' := W5.drew) fun _ _ _ => rfl) _ HA0.out)
        clear hw hpw
        go_upto_region 4 with (fail)
        refine wp_region_held_drew (S := (fun w' => w'.cell? ⟨W.heap.size, 0, none⟩ = some (.int .i64 k) ∧ w'.cell? ⟨W.heap.size, 1, none⟩ = some (.int .i64 v))) (by kernel_rfl) HS0.out (fun hH => ?_)
        refine wpAnyH_take (i := 0) (oi := _) (v := ?_) rfl (by kernel_rfl) (by kernel_rfl) (by kernel_rfl) (fun _ _ _ h => h) (Or.inl ⟨by rfl, ?_⟩) (by assumption) ?_
        rotate_left
        · (intro w hSw; (try dsimp only at hSw); go_simp; try with_reducible rfl)
        try simp only [Act.put, List.getElem_toArray, List.getElem_cons_zero, List.setIfInBounds_toArray, List.set_cons_zero, List.set_cons_succ]
        refine wpAnyH_take (i := 1) (oi := _) (v := ?_) rfl (by kernel_rfl) (by kernel_rfl) (by kernel_rfl) (fun _ _ _ h => h) (Or.inl ⟨by rfl, ?_⟩) (by assumption) ?_
        rotate_left
        · (intro w hSw; (try dsimp only at hSw); go_simp; try with_reducible rfl)
        try simp only [Act.put, List.getElem_toArray, List.getElem_cons_zero, List.getElem_cons_succ, List.setIfInBounds_toArray, List.set_cons_zero, List.set_cons_succ]
        refine wpAnyH_take (i := 3) (oi := _) (v := ?_) rfl (by kernel_rfl) (by kernel_rfl) (by kernel_rfl) (fun _ _ _ h => h) (Or.inl ⟨by rfl, ?_⟩) (by assumption) ?_
        rotate_left
        · (intro w hSw; (try dsimp only at hSw); go_simp; try with_reducible rfl)
        try simp only [Act.put, List.getElem_toArray, List.getElem_cons_zero, List.getElem_cons_succ, List.setIfInBounds_toArray, List.set_cons_zero, List.set_cons_succ]
        refine wpAnyH_ready (rs := [2]) (by kernel_rfl) (by simp) ?_
        refine AllReadyH.cons rfl (fun K hK => ?_) (AllReadyH.nil)
        go_simp
        go_at_call 25; (with_reducible refine (HAT.out).mono ?_); rintro e W6 ⟨A6, b6, rfl, hb6, hT6, hX6, hO6⟩
        refine hK.out _ _ ⟨(off_cell2 hO6 hN5 HAW.out 0).trans u0, (off_cell2 hO6 hN5 HAW.out 1).trans u1⟩ (fun hHeld => ?_)
        try simp only [Act.put, List.getElem_toArray, List.getElem_cons_zero, List.getElem_cons_succ, List.setIfInBounds_toArray, List.set_cons_zero, List.set_cons_succ]
        have f60 := hT6.frozen hb6 0
        have f61 := hT6.frozen hb6 1
        have c60 := hT6.cell hb6 0
        have c61 := hT6.cell hb6 1
        simp only [plc, List.getElem?_toArray, List.getElem?_cons_zero, List.getElem?_cons_succ] at c60 c61
        refine wpAnyH_take (i := 4) (oi := _) (v := ?_) rfl (by kernel_rfl) (by kernel_rfl) (by kernel_rfl) (fun _ _ _ h => h) (Or.inl ⟨by rfl, ?_⟩) (by assumption) ?_
        rotate_left
        · (intro w hSw; (try dsimp only at hSw); go_simp; try with_reducible rfl)
        try simp only [Act.put, List.getElem_toArray, List.getElem_cons_zero, List.getElem_cons_succ, List.setIfInBounds_toArray, List.set_cons_zero, List.set_cons_succ]
        refine wpAnyH_take (i := 5) (oi := _) (v := ?_) rfl (by kernel_rfl) (by kernel_rfl) (by kernel_rfl) (fun _ _ _ h => h) (Or.inl ⟨by rfl, ?_⟩) (by assumption) ?_
        rotate_left
        · (intro w hSw; (try dsimp only at hSw); go_simp; try with_reducible rfl)
        try simp only [Act.put, List.getElem_toArray, List.getElem_cons_zero, List.getElem_cons_succ, List.setIfInBounds_toArray, List.set_cons_zero, List.set_cons_succ]
        refine wpAnyH_ready (rs := [6]) (by kernel_rfl) (by simp) ?_
        refine AllReadyH.cons rfl (fun K hK => ?_) (AllReadyH.nil)
        go_simp
        have hnb : W.heap.size ≠ b6 := fun e => (ext_away hX6 (show W.heap.size < W5.drew.heap.size from hN5) HAW.out) w (by rw [e]; exact hb6)
        have hfrom := ext_from hX6 (show W.heap.size ≤ W5.drew.heap.size from HB5.out.size) (fun u c e => by have := HA.out u c e; rw [World.size_alloc] at this; omega)
        have HT7 := Lib.hid (hT6.write hb6 k v)
        have HB7 := Lib.hid (show Below W.heap.size W ((W6.setCell ⟨b6, 0, none⟩ (.int .i64 k)).setCell ⟨b6, 1, none⟩ (.int .i64 v)) from
          ((HB5.out.trans (show Below W.heap.size W5 W6 from ⟨hO6.os, hO6.tape, hO6.output, hO6.size, fun j hj => hO6.block j (by have := HB5.out.size; show j < W5.heap.size; omega) fun u e => by have := HA.out u j e; rw [World.size_alloc] at this; omega⟩)).setCell (hfrom w b6 hb6) _).setCell (hfrom w b6 hb6) _)
        have HR7 := Lib.hid ((hX6 [] _).1 HA0.out)
        refine hK.out _ _ ⟨(past2 hnb).trans ((off_cell2 hO6 hN5 HAW.out 0).trans u0), (past2 hnb).trans ((off_cell2 hO6 hN5 HAW.out 1).trans u1)⟩ (fun hHeld => ?_)
        try simp only [Act.put, List.getElem_toArray, List.getElem_cons_zero, List.getElem_cons_succ, List.setIfInBounds_toArray, List.set_cons_zero, List.set_cons_succ]
        refine wpAnyH_done (by kernel_rfl) ?_ _
        clear hK hO6 hX6 hT6 hb6 f60 f61 c60 c61 u0 u1 hfrom hHeld hnb
        generalize (W6.setCell ⟨b6, 0, none⟩ (.int .i64 k)).setCell ⟨b6, 1, none⟩ (.int .i64 v) = W7 at HT7 HB7 ⊢
        obtain ⟨out, hout⟩ : ∃ out, out = lst (setF (Fof ns) w (k, v)) 4 [] := ⟨_, rfl⟩
        have HOUT := Lib.hid (show out = putL ns p k v by rw [hout, HPW.out]; exact put_lst HV.out HW.out HNE.out k v)
        have HSH := Lib.hid (show Short 2097152 out by rw [hout]; exact lst_short.mono (by omega))
        have HLN := Lib.hid (show out.length ≤ 4096 by rw [hout]; exact lst_le (by omega) _)
        have HND := Lib.hid (nodes_c A6 _ 4 [] b W7 rfl HT7.out HR7.out)
        have HND2 := Lib.hid (show Calls Tryz.prog 26 #[.pointer (some ⟨b, 0, none⟩), .string ⟨#[47]⟩] W7 (fun e W' => OwnsNodes W7.heap.size out e W' ∧ Below W7.heap.size W7 W') by rw [hout]; exact HND.out)
        clear hout HND
        go_wp2_with fail
        refine HND2.out.mono ?_
        rintro e W8 ⟨⟨sl, rfl, ho8⟩, hb8⟩
        obtain ⟨a8, cap8, rfl, hn8⟩ := nodes_of_own ho8
        obtain ⟨vt, hvt⟩ : ∃ vt, validT out = vt := ⟨_, rfl⟩
        have HTV := Lib.hid (implTreeValid_c a8 out.length cap8 out (by have := HLN.out; omega) HSH.out W8 hn8)
        rw [hvt] at HTV
        have HVT := Lib.hid hvt
        have HO8 := Lib.hid ho8
        have HB8 := Lib.hid (below_next HB7.out hb8)
        clear ho8 hb8 hn8 hvt
        go_wp2_with fail
        refine HTV.out.mono ?_
        rintro e W9 ⟨rfl, hb9⟩
        have HO9 := Lib.hid (own_below HO8.out hb9)
        have HB9 := Lib.hid (below_next HB8.out hb9)
        clear hb9
        cases vt with
        | false =>
          have HG := Lib.hid (show treePut ns p k v = none by
            unfold treePut
            rw [← HOUT.out, show validT out = false from HVT.out]; simp)
          go_wp2
          refine bodyPost_ret (v := .tuple #[.slice none 0 0, .bool false]) (by simp [results, Tryz.f67, go_sem]) rfl (tput_nil HG.out HB9.out)
        | true =>
          have HG := Lib.hid (show treePut ns p k v = some out by
            unfold treePut
            rw [← HOUT.out, show validT out = true from HVT.out, show validT ns = true from HV.out, show validB k v = true from HVB.out, show decide (1 ≤ depB p) = true from decide_eq_true (by rw [HD.out]; omega)]; rfl)
          have hsz7 : W.heap.size ≤ W7.heap.size := HB7.out.size
          go_wp2
          refine bodyPost_ret (v := .tuple #[.slice a8 out.length cap8, .bool true]) (by simp [results, Tryz.f67, go_sem]) rfl ⟨_, out, true, rfl, .inl ⟨rfl, HG.out⟩, own_mono HO9.out hsz7, HB9.out⟩

end Go.Proofs.YtmlnakkfjecibaaGreatDoor

/-
  WALKS: impl.treeAfter, impl.CommandApply (over errors.Is and slices.Clone).
-/
namespace Go.Proofs.YtmlnakkfjecibaaGreatDoor
open Go.RowKit
set_option linter.unusedVariables false

set_option maxHeartbeats 1000000 in
/-- slices.Clone of nodes that lie somewhere. -/
theorem cloneN_c (a : Option Addr) (len cap : Nat) (ns : List Nd) (hl : len ≤ 2097152) (W : World) (hN : NodesAt W a len ns) :
    Calls Tryz.prog 21 #[.slice a len cap] W fun e W' => OwnsNodes W.heap.size ns e W' ∧ Below W.heap.size W W' := by
  have HN := Lib.hid hN
  have HE := Lib.hid hN.1
  have q23 : ∀ (w : World) (a : Option Addr) (n c n' c' : Nat), (binOp .eql 23 (.slice a n c) (.slice none n' c')).run Tryz.prog w = .ok (.bool a.isNone) w := fun w a n c n' c' => Lib.run_eql_slice_nil w _ _ a n c n' c' Tryz.underlying23
  cases a with
  | none =>
    have hz : ns = [] := by
      rcases hN.2 with h | ⟨_, _, h, _⟩
      · exact List.eq_nil_of_length_eq_zero (hN.1.trans h)
      · cases h
    subst hz
    clear hN
    go_enter Tryz.func21, Tryz.ntmps21
    go_wp2
    exact bodyPost_ret (v := .slice none 0 0) (by simp [results, Tryz.f21, go_sem]) rfl ⟨⟨_, rfl, World.ownsRow_nil _ _ _ _⟩, Below.refl _ _⟩
  | some ad =>
    clear hN
    go_enter Tryz.func21, Tryz.ntmps21
    go_wp2_with (at_builtin; refine wpList_append_nodes rfl _ _ rfl W.heap.size _ [] rfl (World.ownsRow_lit (e := 57) (size := 3) W #[] 0 (Nat.le_refl _) (by simp [maxLen]) rfl) _ _ _ _ rfl (HN.out.keep (below_box _ _)) (by have := HE.out; simp; omega) (by simp) ?_; intro v3 w3 ho3 hg3)
    have B3 : Below W.heap.size W w3 := (below_box W _).grown hg3 (by simp) (fun k e => by cases e; exact Nat.le_refl _)
    exact bodyPost_ret (v := v3) (by simp [results, Tryz.f21, go_sem]) rfl ⟨⟨v3, rfl, by simpa using ho3⟩, B3⟩

/-- What treeAfter tells: a tree, or one of the two reasons why there is none. -/
def AfterPost (ns : List Nd) (c : Cmd) (ea eb : Addr) (W : World) (e : Ending) (w' : World) : Prop :=
  ∃ sl err, e = .returned (.tuple #[sl, err]) ∧ Below W.heap.size W w' ∧
    ((sl = .slice none 0 0 ∧ err = .iface 160 (.pointer (some ea)) ∧ applyC ns c = ([], false)) ∨
     (sl = .slice none 0 0 ∧ err = .iface 160 (.pointer (some eb)) ∧ applyC ns c = (ns, false)) ∨
     (err = .nilIface ∧ ∃ out, applyC ns c = (out, true) ∧ w'.ownsRow W.heap.size 57 3 sl out.length (flatN out)))

theorem after_inv {ns : List Nd} {c : Cmd} {ea eb : Addr} {W w' : World} (h : applyC ns c = ([], false)) (hb : Below W.heap.size W w') : AfterPost ns c ea eb W (.returned (.tuple #[.slice none 0 0, .iface 160 (.pointer (some ea))])) w' :=
  ⟨_, _, rfl, hb, .inl ⟨rfl, rfl, h⟩⟩
theorem after_brk {ns : List Nd} {c : Cmd} {ea eb : Addr} {W w' : World} (h : applyC ns c = (ns, false)) (hb : Below W.heap.size W w') : AfterPost ns c ea eb W (.returned (.tuple #[.slice none 0 0, .iface 160 (.pointer (some eb))])) w' :=
  ⟨_, _, rfl, hb, .inr (.inl ⟨rfl, rfl, h⟩)⟩
theorem after_new {ns out : List Nd} {c : Cmd} {ea eb : Addr} {W w' : World} {sl : Value} (h : applyC ns c = (out, true)) (ho : w'.ownsRow W.heap.size 57 3 sl out.length (flatN out)) (hb : Below W.heap.size W w') : AfterPost ns c ea eb W (.returned (.tuple #[sl, .nilIface])) w' :=
  ⟨_, _, rfl, hb, .inr (.inr ⟨rfl, out, h, ho⟩)⟩

set_option maxHeartbeats 2000000 in
set_option maxRecDepth 100000 in
theorem treeAfter_c (a : Option Addr) (len cap : Nat) (ns : List Nd) (c : Cmd) (hl : len ≤ 2097151) (hs : Short 2097152 ns) (hp : c.p.size ≤ 2097152) (W : World) (hN : NodesAt W a len ns) (ea eb : Addr)
    (hI : W.cell? ⟨1, 0, none⟩ = some (.iface 160 (.pointer (some ea)))) (hK : W.cell? ⟨0, 0, none⟩ = some (.iface 160 (.pointer (some eb)))) :
    Calls Tryz.prog 41 #[.slice a len cap, cmdV c] W (AfterPost ns c ea eb W) := by
  obtain ⟨vt, hvt⟩ : ∃ vt, validT ns = vt := ⟨_, rfl⟩
  obtain ⟨vc, hvc⟩ : ∃ vc, validC c = vc := ⟨_, rfl⟩
  have HI := Lib.hid (fun W' (hb : Below W.heap.size W W') => cell_kept hb hI)
  have HK := Lib.hid (fun W' (hb : Below W.heap.size W W') => cell_kept hb hK)
  clear hI hK
  have HV := Lib.hid (fun W' (hb : Below W.heap.size W W') => show Calls Tryz.prog 20 #[.slice a len cap] W' (BoolPost vt W') by rw [← hvt]; exact implTreeValid_c a len cap ns (by omega) hs W' (hN.keep hb))
  have HC := Lib.hid (fun W' => show Calls Tryz.prog 40 #[cmdV c] W' (BoolPost vc W') by rw [← hvc]; exact implCmdValid_c c hp W')
  have HN := Lib.hid hN
  cases vt with
  | false =>
    have HR := Lib.hid (applyC_bad (c := c) (.inl hvt))
    clear hN hs hvt hvc
    unfold cmdV
    go_enter Tryz.func41, Tryz.ntmps41
    go_wp2_with fail
    refine (HV.out _ (below_box _ _)).mono ?_
    rintro e W1 ⟨rfl, hb1⟩
    have B1 := Lib.hid (below_next (below_box W _) hb1)
    have gi := HI.out _ B1.out
    clear hb1
    go_upto_region 2 with (fail)
    go_region
    all_goals (try go_wp2)
    all_goals go_ret2
    all_goals (first | exact after_inv HR.out B1.out.drew | exact after_inv HR.out B1.out)
  | true =>
    cases vc with
    | false =>
      have HR := Lib.hid (applyC_bad (ns := ns) (.inr hvc))
      clear hN hs hvt hvc
      unfold cmdV at HC ⊢
      obtain ⟨p, fk, fv, tk, tv⟩ := c
      simp only at HC ⊢
      go_enter Tryz.func41, Tryz.ntmps41
      go_wp2_with fail
      refine (HV.out _ (below_box _ _)).mono ?_
      rintro e W1 ⟨rfl, hb1⟩
      have q0 := box_cell hb1 0
      have q1 := box_cell hb1 1
      have q2 := box_cell hb1 2
      have q3 := box_cell hb1 3
      have q4 := box_cell hb1 4
      simp at q0 q1 q2 q3 q4
      have B1 := Lib.hid (below_next (below_box W _) hb1)
      clear hb1
      go_wp2_with fail
      refine (HC.out _).mono ?_
      rintro e W2 ⟨rfl, hb2⟩
      have B2 := Lib.hid (below_next B1.out hb2)
      have gi := HI.out _ B2.out
      clear hb2 q0 q1 q2 q3 q4
      go_upto_region 2 with (fail)
      go_region
      all_goals (try go_wp2)
      all_goals go_ret2
      all_goals (first | exact after_inv HR.out B2.out.drew | exact after_inv HR.out B2.out)
    | true =>
      have HR := Lib.hid (applyC_ok hvt hvc)
      have hdep := ((validC_iff c).1 hvc).1
      have HG := Lib.hid (fun W' (h : NodesAt W' a len ns) => implTreeGet_c a len cap ns c.p (by omega) hs (by omega) W' h)
      have HP := Lib.hid (fun W' (h : NodesAt W' a len ns) => implTreePut_c a len cap ns c.p c.tk c.tv (by omega) hs hp W' h)
      have htg := treeGet_eq hvt (vp_of_depth hdep)
      clear hN hs hvt hvc hdep
      unfold cmdV at HC ⊢
      obtain ⟨p, fk, fv, tk, tv⟩ := c
      simp only at HC HR HP HG hp htg ⊢
      obtain ⟨⟨gk, gv⟩, hg⟩ : ∃ g, getT ns p = g := ⟨_, rfl⟩
      rw [hg] at HR htg
      have HGP := Lib.hid (fun W' (h : NodesAt W' a len ns) => show Calls Tryz.prog 11 #[.slice a len cap, .string p] W' (fun e w' => e = .returned (.agg #[.int .i64 gk, .int .i64 gv]) ∧ Below W'.heap.size W' w') by have := HG.out W' h; rw [htg] at this; exact this)
      obtain ⟨ee, hee⟩ : ∃ ee, (!(gk == fk && gv == fv)) = ee := ⟨_, rfl⟩
      have hne := fun w' => (conNeQ gk gv fk fv w').trans (show _ = Result.ok (Value.bool ee) w' by rw [hee])
      have HEE := Lib.hid hee
      clear hg hee htg HG
      go_enter Tryz.func41, Tryz.ntmps41
      go_wp2_with fail
      refine (HV.out _ (below_box _ _)).mono ?_
      rintro e W1 ⟨rfl, hb1⟩
      have q0 := box_cell hb1 0
      have q1 := box_cell hb1 1
      have q2 := box_cell hb1 2
      have q3 := box_cell hb1 3
      have q4 := box_cell hb1 4
      simp at q0 q1 q2 q3 q4
      have B1 := Lib.hid (below_next (below_box W _) hb1)
      clear hb1
      go_wp2_with fail
      refine (HC.out _).mono ?_
      rintro e W2 ⟨rfl, hb2⟩
      have HS2 := Lib.hid (keepCmd (W0 := W) ⟨q0, q1, q2, q3, q4, B1.out⟩ hb2)
      have HS0 : Hid (W2.drew.cell? ⟨W.heap.size, 0, none⟩ = some (.string p) ∧ W2.drew.cell? ⟨W.heap.size, 1, none⟩ = some (.int .i64 fk) ∧ W2.drew.cell? ⟨W.heap.size, 2, none⟩ = some (.int .i64 fv) ∧ W2.drew.cell? ⟨W.heap.size, 3, none⟩ = some (.int .i64 tk) ∧ W2.drew.cell? ⟨W.heap.size, 4, none⟩ = some (.int .i64 tv) ∧ Below W.heap.size W W2.drew) :=
        ⟨HS2.out.1, HS2.out.2.1, HS2.out.2.2.1, HS2.out.2.2.2.1, HS2.out.2.2.2.2.1, HS2.out.2.2.2.2.2.drew⟩
      have HGD := Lib.hid (HGP.out W2.drew (HN.out.keep HS0.out.2.2.2.2.2))
      clear hb2 q0 q1 q2 q3 q4
      go_upto_region 3 with (fail)
      go_region_held3 (fun w' => w'.cell? ⟨W.heap.size, 0, none⟩ = some (.string p) ∧ w'.cell? ⟨W.heap.size, 1, none⟩ = some (.int .i64 fk) ∧ w'.cell? ⟨W.heap.size, 2, none⟩ = some (.int .i64 fv) ∧ w'.cell? ⟨W.heap.size, 3, none⟩ = some (.int .i64 tk) ∧ w'.cell? ⟨W.heap.size, 4, none⟩ = some (.int .i64 tv) ∧ Below W.heap.size W w')
        (first | exact HS0.out | exact keepCmd HS0.out hb5)
        (first | (go_at_call 11; (with_reducible refine (HGD.out).mono ?_); rintro e W5 ⟨rfl, hb5⟩))
      rename_i hS
      obtain ⟨s0, s1, s2, s3, s4, hB5⟩ := hS
      have HB5 := Lib.hid hB5
      have HN5 := Lib.hid (HN.out.keep hB5)
      clear hne hB5
      cases ee with
      | true =>
        have hR2 := Lib.hid (show applyC ns ⟨p, fk, fv, tk, tv⟩ = (ns, false) by
          rw [HR.out, if_neg]
          intro e
          have := HEE.out
          simp only [Prod.mk.injEq] at e
          rw [e.1, e.2] at this
          simp at this)
        have gk := HK.out _ HB5.out
        clear s0 s1 s2 s3 s4
        go_upto_region 4 with (fail)
        go_region
        all_goals (try go_wp2)
        all_goals go_ret2
        all_goals (first | exact after_brk hR2.out HB5.out.drew | exact after_brk hR2.out HB5.out)
      | false =>
        have hgt : (gk, gv) = (fk, fv) := by
          have := HEE.out
          rw [Bool.not_eq_false', Bool.and_eq_true, beq_iff_eq, beq_iff_eq] at this
          rw [this.1, this.2]
        have HR2 := Lib.hid (HR.out.trans (if_pos hgt))
        have HP5 := Lib.hid (HP.out W5 HN5.out)
        clear hgt
        go_wp2_with fail
        refine HP5.out.mono ?_
        rintro e W6 ⟨sl, out, b, rfl, hc, ho, hb6⟩
        have HB6 := Lib.hid (below_next HB5.out hb6)
        have HO6 := Lib.hid (own_mono ho HB5.out.size)
        have gk := HK.out _ HB6.out
        clear s0 s1 s2 s3 s4 ho hb6
        rcases hc with ⟨rfl, hr⟩ | ⟨rfl, hr, rfl⟩
        · have hR3 := Lib.hid (show applyC ns ⟨p, fk, fv, tk, tv⟩ = (out, true) by rw [HR2.out, hr])
          clear hr
          go_wp2
          go_ret2
          exact after_new hR3.out HO6.out HB6.out
        · have hR3 := Lib.hid (show applyC ns ⟨p, fk, fv, tk, tv⟩ = (ns, false) by rw [HR2.out, hr])
          clear hr
          go_upto_region 7 with (fail)
          go_region
          all_goals (try go_wp2)
          all_goals go_ret2
          all_goals (first | exact after_brk hR3.out HB6.out.drew | exact after_brk hR3.out HB6.out)

theorem errEqNil (v : Value) (t : TypeId) (w : World) : (binOp .eql 90 (.iface t v) .nilIface).run Tryz.prog w = .ok (.bool false) w :=
  run_eql_held_nil w 90 t v (by kernel_rfl)
theorem nilEqNil (w : World) : (binOp .eql 90 .nilIface .nilIface).run Tryz.prog w = .ok (.bool true) w :=
  run_eql_nil_nil w 90 (by kernel_rfl)

set_option maxHeartbeats 2000000 in
set_option maxRecDepth 100000 in
theorem implCmdApply_c (a : Option Addr) (len cap : Nat) (ns : List Nd) (c : Cmd) (hl : len ≤ 2097151) (hs : Short 2097152 ns) (hp : c.p.size ≤ 2097152) (W : World) (hN : NodesAt W a len ns) (hE : CmdVars W) :
    Calls Tryz.prog 22 #[.slice a len cap, cmdV c] W (ApplyPost (applyC ns c) W.heap.size W) := by
  have HE := Lib.hid hE
  obtain ⟨ea, eb, ca, cb, ta, tb, hI, hK, hne, ha, hb⟩ := hE
  have HT := Lib.hid (fun W' (hb : Below W.heap.size W W') => treeAfter_c a len cap ns c hl hs hp W' (hN.keep hb) ea eb (cell_kept hb hI) (cell_kept hb hK))
  have HK := Lib.hid (fun W' (hb : Below W.heap.size W W') => cell_kept hb hK)
  have HO := Lib.hid (fun W' (hx : Below W.heap.size W W') => isErr_other ea eb ca cb ta tb W' hne (heap_kept hx ha) (heap_kept hx hb))
  have HCL := Lib.hid (fun W' (hb : Below W.heap.size W W') => cloneN_c a len cap ns (by omega) W' (hN.keep hb))
  clear hN hs hI hK hne ha hb
  unfold cmdV at HT ⊢
  obtain ⟨p, fk, fv, tk, tv⟩ := c
  simp only at HT ⊢
  go_enter Tryz.func22, Tryz.ntmps22
  go_wp2_with fail
  refine (HT.out _ (below_box _ _)).mono ?_
  rintro e W1 ⟨sl, err, rfl, hb1, hc⟩
  have B1 := Lib.hid (below_next (below_box W _) hb1)
  have gk := HK.out _ B1.out
  clear hb1
  rcases hc with ⟨rfl, rfl, hr⟩ | ⟨rfl, rfl, hr⟩ | ⟨rfl, out, hr, ho⟩
  · have HR := Lib.hid hr
    clear hr
    go_wp2_with fail
    refine (HO.out _ B1.out).mono ?_
    rintro e W2 ⟨rfl, rfl⟩
    have he := errEqNil
    go_upto_region 4 with (fail)
    go_region
    all_goals (try go_wp2)
    all_goals go_ret2
    all_goals (first | exact apply_end HR.out (World.ownsRow_nil _ _ _ _) B1.out.drew | exact apply_end HR.out (World.ownsRow_nil _ _ _ _) B1.out)
  · have HR := Lib.hid hr
    clear hr
    go_wp2_with fail
    refine (isErr_same eb _).mono ?_
    rintro e W2 ⟨rfl, rfl⟩
    go_wp2_with fail
    refine (HCL.out _ B1.out).mono ?_
    rintro e W3 ⟨⟨v3, rfl, ho3⟩, hb3⟩
    go_wp2
    go_ret2
    exact apply_end HR.out (own_mono ho3 B1.out.size) (below_next B1.out hb3)
  · have HR := Lib.hid hr
    have HO1 := Lib.hid (own_mono ho (below_box W _).size)
    clear hr ho
    go_wp2_with fail
    refine (isErr_nil eb _).mono ?_
    rintro e W2 ⟨rfl, rfl⟩
    have he := nilEqNil
    go_upto_region 4 with (fail)
    go_region
    all_goals (try go_wp2)
    all_goals go_ret2
    all_goals (first | exact apply_end HR.out HO1.out B1.out.drew | exact apply_end HR.out HO1.out B1.out)

end Go.Proofs.YtmlnakkfjecibaaGreatDoor

/-
  WALKS: impl.LogValid, LogUndo, LogApply, LogFits.
-/
namespace Go.Proofs.YtmlnakkfjecibaaGreatDoor
open Go.RowKit
set_option linter.unusedVariables false

/-- Between two rounds of LogApply. -/
def DoneRel (ns : List Nd) (cs : List Cmd) (W : World) (l k o i : Value) (wr : World) : Prop :=
  ∃ (n : Nat) (acc : List Nd) (x : Option Addr), l = .pointer x ∧ k = .bool true ∧ i = .int .i64 n ∧ n ≤ cs.length ∧ wr.ownsRow W.heap.size 57 3 o acc.length (flatN acc) ∧ Hid (EntAt W.heap.size wr x (cs.drop n)) ∧ Hid (acc.length ≤ 10) ∧ Hid (Short 2097152 acc) ∧ Hid (runL ns (cs.take n) = (acc, n)) ∧ Hid (Below W.heap.size W wr)

set_option maxHeartbeats 1000000 in
set_option maxRecDepth 100000 in
theorem implLogValid_c (a : Option Addr) (len cap : Nat) (cs : List Cmd) (hl : len ≤ 2097152) (hs : ShortC 2097152 cs) (W : World) (hN : CmdsAt W a len cs) :
    Calls Tryz.prog 14 #[.slice a len cap] W (BoolPost (validL cs) W) := by
  have HEn := Lib.hid (entriesOf_c a len cap cs hs W hN)
  clear hN hs hl
  go_enter Tryz.func14, Tryz.ntmps14
  go_wp2_with fail
  refine HEn.out.mono ?_
  rintro e W1 ⟨hb, ⟨hv, rfl⟩ | ⟨hv, x, rfl, -⟩⟩
  · have HB := Lib.hid hb
    have HV := Lib.hid hv
    clear hb hv
    go_wp2
    go_ret
    exact ⟨ret_bool HV.out.symm, HB.out⟩
  · have HB := Lib.hid hb
    have HV := Lib.hid hv
    clear hb hv
    go_wp2
    go_ret
    exact ⟨ret_bool HV.out.symm, HB.out⟩

set_option maxHeartbeats 4000000 in
set_option maxRecDepth 100000 in
theorem implLogApply_c (a1 : Option Addr) (len1 cap1 : Nat) (ns : List Nd) (a2 : Option Addr) (len2 cap2 : Nat) (cs : List Cmd) (hl1 : len1 ≤ 2097152) (hl2 : len2 ≤ 2097152) (hs1 : Short 2097152 ns) (hs2 : ShortC 2097152 cs) (W : World) (h1 : NodesAt W a1 len1 ns) (h2 : CmdsAt W a2 len2 cs) (hE : CmdVars W) :
    Calls Tryz.prog 9 #[.slice a1 len1 cap1, .slice a2 len2 cap2] W (LogPost (logApply ns cs) W) := by
  obtain ⟨cnt, hcnt⟩ := ent_count W.heap.size
  have HC := Lib.hid hcnt
  obtain ⟨vt, hvt⟩ : ∃ vt, validT ns = vt := ⟨_, rfl⟩
  have HV := Lib.hid (fun W' (hb : Below W.heap.size W W') => show Calls Tryz.prog 20 #[.slice a1 len1 cap1] W' (BoolPost vt W') by rw [← hvt]; exact implTreeValid_c a1 len1 cap1 ns hl1 hs1 W' (h1.keep hb))
  have HEn := Lib.hid (entriesOf_c a2 len2 cap2 cs hs2 W h2)
  have HCL := Lib.hid (fun W' (hb : Below W.heap.size W W') => cloneN_c a1 len1 cap1 ns (by omega) W' (h1.keep hb))
  have HVT := Lib.hid hvt
  have HS1 := Lib.hid hs1
  have HS2 := Lib.hid hs2
  have HE := Lib.hid hE
  clear h1 h2 hs1 hs2 hcnt hE hvt hl1 hl2
  go_enter Tryz.func9, Tryz.ntmps9
  go_wp2_with fail
  refine HEn.out.mono ?_
  rintro e W1 ⟨hb, ⟨hv, rfl⟩ | ⟨hv, x, rfl, hx⟩⟩
  · have HB := Lib.hid hb
    have HR := Lib.hid (logApply_bad (ns := ns) (.inr hv))
    clear hb hv
    go_wp2_with fail
    go_ret2
    exact log_end HR.out (World.ownsRow_nil _ _ _ _) HB.out
  · have B1 := Lib.hid hb
    have HX := Lib.hid hx
    have HVL := Lib.hid hv
    clear hb hv hx
    go_wp2_with fail
    refine (HV.out _ B1.out).mono ?_
    rintro e W2 ⟨rfl, hb2⟩
    have B2 := Lib.hid (below_next B1.out hb2)
    have HX2 := Lib.hid (HX.out.keep hb2)
    clear hb2
    cases vt with
    | false =>
      have HR := Lib.hid (logApply_bad (cs := cs) (.inl HVT.out))
      go_wp2
      go_ret2
      exact log_end HR.out (World.ownsRow_nil _ _ _ _) B2.out
    | true =>
      have HR := Lib.hid (logApply_ok HVT.out HVL.out)
      have HLN := Lib.hid (show ns.length ≤ 10 from ((validT_iff ns).1 HVT.out).2.2)
      have HRN := Lib.hid (show runL ns (cs.take 0) = (ns, 0) from rfl)
      go_wp2_with fail
      refine (HCL.out _ B2.out).mono ?_
      rintro e W3 ⟨⟨v3, rfl, ho3⟩, hb3⟩
      have B3 := Lib.hid (below_next B2.out hb3)
      have HX3 := Lib.hid (HX2.out.keep hb3)
      have ho3' := own_mono ho3 B2.out.size
      clear hb3 ho3
      go_wp2_with fail
      go_loopw [6, 7, 8, 9] (fun l k o i wr => DoneRel ns cs W l k o i wr) (fun l _ _ _ wr => cnt wr l)
      case atStart => exact ⟨0, ns, x, rfl, rfl, rfl, Nat.zero_le _, ho3', HX3, HLN, HS1, HRN, B3⟩
      case round =>
        obtain ⟨n, acc, x, rfl, rfl, rfl, hn, hown, HXX, HAL, HAS, HRUN, HB⟩ := hrel
        by_cases hlt : n < cs.length
        · obtain ⟨c, hc⟩ : ∃ c, cs[n]? = some c := ⟨_, List.getElem?_eq_getElem hlt⟩
          have hd : cs.drop n = c :: cs.drop (n + 1) := by rw [List.drop_eq_getElem_cons hlt, (List.getElem?_eq_some_iff.1 hc).2]
          have hx := HXX.out
          rw [hd] at hx
          have HX0 := Lib.hid hx
          obtain ⟨b, nx, rfl, hBb, hrest, c0, c1, c2, c3, c4, c5⟩ := hx.first
          have HREST := Lib.hid hrest
          have HLT := Lib.hid hlt
          have HNN := Lib.hid hc
          have C5 := Lib.hid c5
          obtain ⟨ao, co, rfl, hno⟩ := nodes_of_own hown
          obtain ⟨⟨out, ok⟩, hr⟩ : ∃ r, applyC acc c = r := ⟨_, rfl⟩
          have HA := Lib.hid (show Calls Tryz.prog 22 #[.slice ao acc.length co, cmdV c] wr (fun e w' => ∃ sl, e = .returned (.tuple #[sl, .bool ok]) ∧ w'.ownsRow wr.heap.size 57 3 sl out.length (flatN out) ∧ Below wr.heap.size wr w') by
            have := implCmdApply_c ao acc.length co acc c (by have := HAL.out; omega) HAS.out (HS2.out.at hc) wr hno (HE.out.keep HB.out)
            rw [hr] at this; exact this)
          have HRR := Lib.hid hr
          have HPC := Lib.hid (HS2.out.at hc)
          have HVA := Lib.hid (And.intro (show validT acc = true by have := runL_valid (cs.take n) ns HVT.out; rwa [HRUN.out] at this) (validL_at HVL.out hc))
          have hnw : IntKind.i64.wrap ((n : Int) + 1) = ((n + 1 : Nat) : Int) := (IntWalk.i64_in _ (by have := ((validL_iff cs).1 HVL.out).2; omega)).trans (by omega)
          obtain ⟨p, fk, fv, tk, tv⟩ := c
          unfold cmdV at HA
          simp only at c0 c1 c2 c3 c4 HA HPC
          clear hn hlt hc hd hx hrest HXX hr hown hno ho3'
          go_wp2_with fail
          refine HA.out.mono ?_
          rintro e W4 ⟨sl, rfl, ho4, hb4⟩
          have c6 := cell_kept hb4 C5.out
          have HB4 := Lib.hid (below_next HB.out hb4)
          have HO4 := Lib.hid (own_mono ho4 HB.out.size)
          have HR4 := Lib.hid (HREST.out.keep hb4)
          clear c0 c1 c2 c3 c4 c5 ho4 hb4
          cases ok with
          | false =>
            have HR2 := Lib.hid (run_stop HRUN.out HNN.out (by rw [HRR.out]))
            obtain rfl : out = acc := (apply_break HRR.out HVA.out.1 HVA.out.2).1
            go_wp2
            go_ret2
            exact log_end (by rw [HR.out, HR2.out]) HO4.out HB4.out
          | true =>
            have HR2 := Lib.hid (run_step HRUN.out HNN.out HRR.out)
            have HSS := Lib.hid (apply_short2 HRR.out HAS.out HPC.out)
            go_wp2
            go_roundw
            case rel => exact ⟨n + 1, out, nx, rfl, rfl, rfl, by have := HLT.out; omega, HO4.out, HR4, HSS.out.2, HSS.out.1, HR2, HB4⟩
            case measure =>
              have m1 := HC.out _ _ _ HR4.out
              have m2 := HC.out _ _ _ HX0.out
              show cnt _ _ < cnt _ _
              rw [m1, m2]
              simp
        · have he : n = cs.length := by omega
          subst he
          have hx := HXX.out
          rw [List.drop_length] at hx
          obtain rfl : x = none := hx
          have HR2 := Lib.hid (show logApply ns cs = (acc, (cs.length : Int)) by rw [HR.out, run_whole HRUN.out])
          have HO := Lib.hid hown
          clear hn hlt hown ho3'
          go_wp2
          go_ret2
          exact log_end HR2.out HO.out HB.out

set_option maxHeartbeats 2000000 in
set_option maxRecDepth 100000 in
theorem implLogFits_c (a1 : Option Addr) (len1 cap1 : Nat) (ns : List Nd) (a2 : Option Addr) (len2 cap2 : Nat) (cs : List Cmd) (hl1 : len1 ≤ 2097152) (hl2 : len2 ≤ 2097152) (hs1 : Short 2097152 ns) (hs2 : ShortC 2097152 cs) (W : World) (h1 : NodesAt W a1 len1 ns) (h2 : CmdsAt W a2 len2 cs) (hE : CmdVars W) :
    Calls Tryz.prog 5 #[.slice a1 len1 cap1, .slice a2 len2 cap2] W (BoolPost (fitsL ns cs) W) := by
  obtain ⟨⟨out, n⟩, hr⟩ : ∃ r, logApply ns cs = r := ⟨_, rfl⟩
  have HA := Lib.hid (show Calls Tryz.prog 9 #[.slice a1 len1 cap1, .slice a2 len2 cap2] W (fun e w' => ∃ sl, e = .returned (.tuple #[sl, .int .i64 n]) ∧ w'.ownsRow W.heap.size 57 3 sl out.length (flatN out) ∧ Below W.heap.size W w') by
    have := implLogApply_c a1 len1 cap1 ns a2 len2 cap2 cs hl1 hl2 hs1 hs2 W h1 h2 hE
    rw [hr] at this; exact this)
  have HF := Lib.hid (show fitsL ns cs = (n == (len2 : Int)) by
    unfold fitsL
    rw [hr, h2.1]
    by_cases e : n = (len2 : Int)
    · simp [e]
    · rw [decide_eq_false e, beq_eq_false_iff_ne.2 e])
  clear h1 h2 hs1 hs2 hr hE
  go_enter Tryz.func5, Tryz.ntmps5
  go_wp2_with fail
  refine HA.out.mono ?_
  rintro e W1 ⟨sl, rfl, -, hb1⟩
  go_wp2
  go_ret
  exact ⟨ret_bool HF.out.symm, hb1⟩

end Go.Proofs.YtmlnakkfjecibaaGreatDoor

/-
  WALKS: filters of the program: impl.isWithin, touches, isPartOf, sift at commands and at nodes, siftLog, IgnoresValid, FilterKeep, FilterHold, FilterTree.
-/
namespace Go.Proofs.YtmlnakkfjecibaaGreatDoor
open Go.RowKit
set_option linter.unusedVariables false

theorem zg_first : (0 : Nat) ≤ 0 := Nat.le_refl 0

/-- impl.isWithin. -/
def withinB (p q : ByteArray) : Bool := decide (p = q) || underB q p
/-- impl.touches. -/
def touchI (c : Cmd) (q : ByteArray) : Bool := withinB c.p q || (underB c.p q && !(c.tk == 1))
/-- impl.isPartOf. -/
def partI (n : Nd) (q : ByteArray) : Bool := withinB n.p q

theorem any_or2 {f g : ByteArray → Bool} : ∀ l : List ByteArray, l.any (fun q => f q || g q) = (l.any f || l.any g)
  | [] => rfl
  | a :: r => by
    rw [List.any_cons, List.any_cons, List.any_cons, any_or2 r]
    cases f a <;> cases g a <;> cases r.any f <;> cases r.any g <;> rfl
theorem any_ext2 {f g : ByteArray → Bool} {l : List ByteArray} (h : ∀ q ∈ l, f q = g q) : l.any f = l.any g := by
  rw [Bool.eq_iff_iff, List.any_eq_true, List.any_eq_true]
  constructor
  · rintro ⟨q, hq, e⟩; exact ⟨q, hq, by rw [← h q hq]; exact e⟩
  · rintro ⟨q, hq, e⟩; exact ⟨q, hq, by rw [h q hq]; exact e⟩
theorem within_any {igs : List ByteArray} (hi : igV igs = true) {p : ByteArray} (hp : vpB p = true) : igs.any (withinB p) = inB igs p := by
  unfold inB
  refine any_ext2 (fun q hq => ?_)
  unfold withinB
  rw [l1u_und (igV_at hi hq) hp]
  congr 1
  by_cases h : p = q
  · rw [decide_eq_true h, decide_eq_true h.symm]
  · rw [decide_eq_false h, decide_eq_false (fun e => h e.symm)]
theorem touch_any {igs : List ByteArray} (hi : igV igs = true) {c : Cmd} (hc : validC c = true) : igs.any (touchI c) = touchL igs c := by
  have e1 : igs.any (touchI c) = (igs.any (withinB c.p) || igs.any (overI c)) := by
    rw [← any_or2]
    refine any_ext2 (fun q hq => ?_)
    unfold touchI overI
    rw [l1u_und (validC_vp hc) (igV_at hi hq)]
    rfl
  rw [e1, within_any hi (validC_vp hc), Bool.or_comm]
  rfl
theorem keep_impl {cs : List Cmd} {igs : List ByteArray} (hv : validL cs = true) (hi : igV igs = true) : cs.filter (fun c => !igs.any (touchI c)) = keepL cs igs ∧ cs.filter (fun c => igs.any (touchI c)) = holdL cs igs := by
  rw [keep_ok hv hi, hold_ok hv hi]
  constructor
  · refine List.filter_congr (fun c hc => ?_)
    rw [touch_any hi (((validL_iff cs).1 hv).1 c hc)]
  · refine List.filter_congr (fun c hc => ?_)
    rw [touch_any hi (((validL_iff cs).1 hv).1 c hc)]
theorem filt_impl {ns : List Nd} {igs : List ByteArray} (hv : validT ns = true) (hi : igV igs = true) : ns.filter (fun n => !igs.any (partI n)) = filtT ns igs := by
  rw [filt_ok hv hi]
  refine List.filter_congr (fun n hn => ?_)
  have := within_any hi (good_path hv hn).2
  unfold partI
  rw [show (fun q => withinB n.p q) = withinB n.p from rfl, this]
theorem keep_bad {cs : List Cmd} {igs : List ByteArray} (h : validL cs = false ∨ igV igs = false) : keepL cs igs = [] ∧ holdL cs igs = [] := by
  unfold keepL holdL
  rcases h with h | h <;> rw [h] <;> simp
theorem filt_bad {ns : List Nd} {igs : List ByteArray} (h : validT ns = false ∨ igV igs = false) : filtT ns igs = [] := by
  unfold filtT
  rcases h with h | h <;> rw [h] <;> simp
theorem igV_impl (igs : List ByteArray) : igV igs = (!decide (4 < igs.length) && !igs.any (fun q => decide (depB q ≤ 0))) := by
  unfold igV
  rw [Bool.and_comm]
  congr 1
  · by_cases h : igs.length ≤ 4
    · rw [decide_eq_true h, decide_eq_false (by omega)]; rfl
    · rw [decide_eq_false h, decide_eq_true (by omega)]; rfl
  · rw [Bool.eq_iff_iff, List.all_eq_true, Bool.not_eq_true', List.any_eq_false]
    constructor
    · intro k q hq e
      have h1 := of_decide_eq_true (k q hq)
      have h2 := of_decide_eq_true e
      omega
    · intro k q hq
      refine decide_eq_true ?_
      have := k q hq
      rw [decide_eq_true_eq] at this
      omega

set_option maxHeartbeats 1000000 in
set_option maxRecDepth 100000 in
theorem isWithin_c (p q : ByteArray) (hp : p.size ≤ 2097152) (hq : q.size ≤ 2097152) (W : World) : Calls Tryz.prog 64 #[.string p, .string q] W (BoolPost (withinB p q) W) := by
  obtain ⟨u, hu⟩ : ∃ u, underB q p = u := ⟨_, rfl⟩
  obtain ⟨y, hy⟩ : ∃ y, (p.toList == q.toList) = y := ⟨_, rfl⟩
  have HU := Lib.hid (fun w => show Calls Tryz.prog 65 #[.string q, .string p] w (fun e w' => e = .returned (.bool u) ∧ Below w.heap.size w w') by rw [← hu]; exact pathUnder_c q p hq hp w)
  have HR := Lib.hid (show withinB p q = (y || u) by unfold withinB; rw [inB_step, hy, hu])
  clear hu hp hq
  go_enter Tryz.func64, Tryz.ntmps64
  cases y with
  | true =>
    go_wp2
    go_ret
    exact ⟨ret_bool (by rw [HR.out]; rfl), Below.refl _ _⟩
  | false =>
    go_wp2_with fail
    refine (HU.out _).mono ?_
    rintro e W1 ⟨rfl, hb1⟩
    have B1 := Lib.hid hb1
    clear hb1
    go_wp2
    go_ret
    exact ⟨ret_bool (by rw [HR.out]; rfl), B1.out⟩

set_option maxHeartbeats 1000000 in
set_option maxRecDepth 100000 in
theorem touches_c (c : Cmd) (q : ByteArray) (hp : c.p.size ≤ 2097152) (hq : q.size ≤ 2097152) (W : World) : Calls Tryz.prog 38 #[cmdV c, .string q] W (BoolPost (touchI c q) W) := by
  obtain ⟨y, hy⟩ : ∃ u, withinB c.p q = u := ⟨_, rfl⟩
  obtain ⟨u, hu⟩ : ∃ u, underB c.p q = u := ⟨_, rfl⟩
  obtain ⟨x, hx⟩ : ∃ x, (c.tk == 1) = x := ⟨_, rfl⟩
  have HY := Lib.hid (fun w => show Calls Tryz.prog 64 #[.string c.p, .string q] w (BoolPost y w) by rw [← hy]; exact isWithin_c c.p q hp hq w)
  have HU := Lib.hid (fun w => show Calls Tryz.prog 65 #[.string c.p, .string q] w (fun e w' => e = .returned (.bool u) ∧ Below w.heap.size w w') by rw [← hu]; exact pathUnder_c c.p q hp hq w)
  have HR := Lib.hid (show touchI c q = (y || (u && !x)) by unfold touchI; rw [hy, hu, hx])
  have HBX := Lib.hid (below_box W (.cells #[.string c.p, .int .i64 c.fk, .int .i64 c.fv, .int .i64 c.tk, .int .i64 c.tv] 45))
  have HC := Lib.hid (five_new W (.string c.p) (.int .i64 c.fk) (.int .i64 c.fv) (.int .i64 c.tk) (.int .i64 c.tv) 45)
  clear hu hy hp hq
  obtain ⟨p, fk, fv, tk, tv⟩ := c
  unfold cmdV
  simp only at HY HU HR HBX HC hx ⊢
  have hxn : (tk != 1) = !x := by rw [bne, hx]
  go_enter Tryz.func38, Tryz.ntmps38
  go_wp2_with fail
  refine (HY.out _).mono ?_
  rintro e W1 ⟨rfl, hb1⟩
  have B1 := Lib.hid (below_next HBX.out hb1)
  have C1 := Lib.hid (HC.out.below hb1)
  clear hb1
  obtain ⟨c0, c1, c2, c3, c4, -⟩ := C1.out
  cases y with
  | true =>
    go_wp2
    go_ret
    exact ⟨ret_bool (by rw [HR.out]; rfl), B1.out⟩
  | false =>
    go_wp2_with fail
    refine (HU.out _).mono ?_
    rintro e W2 ⟨rfl, hb2⟩
    have B2 := Lib.hid (below_next B1.out hb2)
    have C2 := Lib.hid (C1.out.below hb2)
    clear hb2 c0 c1 c2 c3 c4
    obtain ⟨c0, c1, c2, c3, c4, -⟩ := C2.out
    cases u with
    | false =>
      go_wp2
      go_ret
      exact ⟨ret_bool (by rw [HR.out]; rfl), B2.out⟩
    | true =>
      go_wp2
      go_ret
      exact ⟨ret_bool (by rw [HR.out]; rfl), B2.out⟩

/-- A rule of texts in memory: a function value that answers f of each text, in this world and in each that grows from it. -/
def RuleT (w : World) (v : Value) (f : ByteArray → Bool) : Prop :=
  ∃ (g : Nat) (lb : Array Value), v = .func (.func g) #[] lb ∧ (∀ args w', (callFunc g args).run Tryz.prog w' = .ok (.enter g args) w') ∧
    ∀ (q : ByteArray) (W : World), q.size ≤ 2097152 → Below w.heap.size w W → Calls Tryz.prog g (#[.string q] ++ lb) W (BoolPost (f q) W)

/-- What a search tells. -/
def IndexPostT (b : Bool) (W : World) (e : Ending) (w' : World) : Prop := ∃ i : Int, e = .returned (.int .i64 i) ∧ decide (0 ≤ i) = b ∧ Below W.heap.size W w'

set_option maxHeartbeats 2000000 in
set_option maxRecDepth 100000 in
theorem indexFuncT_c (a : Option Addr) (len cap : Nat) (cs : List ByteArray) (v : Value) (f : ByteArray → Bool) (hl : len ≤ 2097152) (hs : ShortX 2097152 cs) (W : World) (hN : TextsAt W a len cs) (hR : RuleT W v f) :
    Calls Tryz.prog 81 #[.slice a len cap, v] W (IndexPostT (cs.any f) W) := by
  obtain ⟨g, lb, rfl, eg, hP⟩ := hR
  have HN := Lib.hid hN
  have HE := Lib.hid hN.1
  have HS := Lib.hid hs
  have HP := Lib.hid hP
  have hl' : (len : Int) ≤ 2097152 := by omega
  clear hN hs hP
  go_enter Tryz.func81, Tryz.ntmps81
  go_wp2
  go_loopw [5, 8] (fun _ k wr => ∃ n : Nat, k = .int .i64 n ∧ n ≤ len ∧ Hid (∀ (j : Nat) (d : ByteArray), j < n → cs[j]? = some d → f d = false) ∧ Hid (Below W.heap.size W wr)) (fun _ k _ => len - (intOf k).toNat)
  case atStart => exact ⟨0, rfl, Nat.zero_le _, Lib.hid (fun j d h => absurd h (Nat.not_lt_zero _)), Lib.hid (Below.refl _ _)⟩
  case round =>
    obtain ⟨n, rfl, hn, HNO, HB⟩ := hrel
    by_cases hlt : n < len
    · have hlt' : (n : Int) < len := by omega
      have hw1 : IntKind.i64.wrap ((n : Int) + 1) = (n : Int) + 1 := IntWalk.i64_in _ (by omega)
      have HLT := Lib.hid hlt
      obtain ⟨b, off, d, rfl, hd, d0⟩ := (HN.out.keep HB.out).node hlt
      obtain ⟨q, hq⟩ : ∃ q, f d = q := ⟨_, rfl⟩
      have HC := Lib.hid (fun w (hb : Below W.heap.size W w) => show Calls Tryz.prog g (#[.string d] ++ lb) w (BoolPost q w) by rw [← hq]; exact HP.out d w (HS.out.at hd) hb)
      have HD := Lib.hid (And.intro hd hq)
      clear hn hlt hd hq
      go_wp2_with (go_at_fn g; refine (HC.out _ HB.out).mono ?_; rintro e W1 ⟨rfl, hb1⟩; have B1 := Lib.hid (below_next HB.out hb1); clear hb1 d0; cases q)
      · go_wp2
        go_roundw
        case rel => exact ⟨n + 1, by go_num, HLT.out, textAny_next HNO.out HD.out.1 HD.out.2, B1⟩
        case measure => have := HLT.out; simp [intOf]; omega
      · have hn0 : (0 : Int) ≤ n := by omega
        go_wp2
        go_ret
        exact ⟨n, rfl, by rw [textAny_at HD.out.1 HD.out.2]; exact decide_eq_true hn0, B1.out⟩
    · have hge : (len : Int) ≤ n := by omega
      have HX := Lib.hid (textAny_none (f := f) (cs := cs) (fun j d hd => HNO.out j d (by have := (List.getElem?_eq_some_iff.1 hd).1; have := HE.out; omega) hd))
      clear hn hlt
      go_wp2
      go_ret
      exact ⟨-1, rfl, by rw [HX.out]; rfl, HB.out⟩

set_option maxHeartbeats 2000000 in
set_option maxRecDepth 100000 in
theorem containsFuncT_c (a : Option Addr) (len cap : Nat) (cs : List ByteArray) (v : Value) (f : ByteArray → Bool) (hl : len ≤ 2097152) (hs : ShortX 2097152 cs) (W : World) (hN : TextsAt W a len cs) (hR : RuleT W v f) :
    Calls Tryz.prog 61 #[.slice a len cap, v] W (BoolPost (cs.any f) W) := by
  have HI := Lib.hid (indexFuncT_c a len cap cs v f hl hs W hN hR)
  obtain ⟨g, lb, rfl, -⟩ := hR
  clear hN hs hl
  go_enter Tryz.func61, Tryz.ntmps61
  go_wp2_with fail
  refine HI.out.mono ?_
  rintro e W1 ⟨i, rfl, hi, hb⟩
  have B1 := Lib.hid hb
  have HX := Lib.hid hi
  clear hb hi
  go_wp2
  go_ret
  exact ⟨ret_bool HX.out, B1.out⟩

set_option maxHeartbeats 1000000 in
set_option maxRecDepth 100000 in
theorem ignores1_c (q : ByteArray) (hq : q.size ≤ 2097152) (W : World) : Calls Tryz.prog 62 #[.string q] W (BoolPost (decide (depB q ≤ 0)) W) := by
  obtain ⟨dp, hdp⟩ : ∃ dp, depB q = dp := ⟨_, rfl⟩
  have HD := Lib.hid (fun w => show Calls Tryz.prog 45 #[.string q] w (fun e w' => e = .returned (.int .i64 dp) ∧ Below w.heap.size w w') by rw [← hdp]; exact pathDepth_c q (by omega) w)
  rw [hdp]
  clear hdp hq
  go_enter Tryz.func62, Tryz.ntmps62
  go_wp2_with fail
  refine (HD.out _).mono ?_
  rintro e W1 ⟨rfl, hb1⟩
  have B1 := Lib.hid hb1
  clear hb1
  go_wp2
  go_ret
  exact ⟨ret_bool rfl, B1.out⟩
theorem ignores1_rule (W : World) : RuleT W (.func (.func 62) #[] #[]) (fun q => decide (depB q ≤ 0)) :=
  ⟨_, _, rfl, enters_of Tryz.func62 (by kernel_rfl) rfl, fun q W' hq _ => ignores1_c q hq W'⟩

set_option maxHeartbeats 1000000 in
set_option maxRecDepth 100000 in
theorem implIgnores_c (a : Option Addr) (len cap : Nat) (igs : List ByteArray) (hl : len ≤ 2097152) (hs : ShortX 2097152 igs) (W : World) (hN : TextsAt W a len igs) :
    Calls Tryz.prog 36 #[.slice a len cap] W (BoolPost (igV igs) W) := by
  obtain ⟨y, hy⟩ : ∃ y, igs.any (fun q => decide (depB q ≤ 0)) = y := ⟨_, rfl⟩
  have HF := Lib.hid (fun w (hb : Below W.heap.size W w) => show Calls Tryz.prog 61 #[.slice a len cap, .func (.func 62) #[] #[]] w (BoolPost y w) by rw [← hy]; exact containsFuncT_c a len cap igs _ _ hl hs w (hN.keep hb) (ignores1_rule w))
  have HR := Lib.hid (show igV igs = (!decide (4 < len) && !y) by rw [igV_impl, hN.1, hy])
  clear hy hN hs
  by_cases h4 : 4 < len
  · have h4' : (4 : Int) < len := by omega
    have HX := Lib.hid (show igV igs = false by rw [HR.out, decide_eq_true h4]; rfl)
    clear hl h4
    go_enter Tryz.func36, Tryz.ntmps36
    go_wp2
    go_ret
    exact ⟨ret_bool HX.out.symm, Below.refl _ _⟩
  · have h4' : (len : Int) ≤ 4 := by omega
    have HX := Lib.hid (show igV igs = !y by rw [HR.out, decide_eq_false h4]; rfl)
    clear hl h4
    go_enter Tryz.func36, Tryz.ntmps36
    go_wp2_with fail
    refine (HF.out _ (Below.refl _ _)).mono ?_
    rintro e W1 ⟨rfl, hb1⟩
    have B1 := Lib.hid hb1
    clear hb1
    go_wp2
    go_ret
    exact ⟨ret_bool HX.out.symm, B1.out⟩

end Go.Proofs.YtmlnakkfjecibaaGreatDoor

/-
  WALKS: filters of the program, second part: impl.sift at commands and at nodes, siftLog, FilterKeep, FilterHold, FilterTree.
-/
namespace Go.Proofs.YtmlnakkfjecibaaGreatDoor
open Go.RowKit
set_option linter.unusedVariables false

/-- Two values lie in different blocks. -/
def ApartV (o h : Value) : Prop := ∀ k, o.ownBlock = some k → h.ownBlock ≠ some k
theorem apart_turn {o h : Value} (a : ApartV o h) : ApartV h o := fun k e1 e2 => a k e2 e1
theorem sift_far {W W' : World} {b : Nat} {e : TypeId} {size n : Nat} {v : Value} {xs : List Value} (h : W.ownsRow b e size v n xs) {row : Value} (hg : W.grownBy W' row.ownBlock) (hd : ∀ k, v.ownBlock = some k → row.ownBlock ≠ some k) : W'.ownsRow b e size v n xs := by
  refine h.kept hg ?_
  cases hv : v.ownBlock with
  | none => exact .inl rfl
  | some k => right; exact fun e => hd k hv e.symm
theorem sift_apart {o h v : Value} {n : Nat} (a : ApartV o h) (hat : v.ownBlock = o.ownBlock ∨ v.ownBlock = some n) (hl : ∀ k, h.ownBlock = some k → k < n) : ApartV v h := by
  intro k e1 e2
  rcases hat with e | e
  · rw [e] at e1; exact a k e1 e2
  · rw [e] at e1
    obtain rfl := Option.some.inj e1
    exact absurd (hl _ e2) (Nat.lt_irrefl _)
theorem flatN_lengthX (ns : List Nd) : (flatN ns).length = ns.length * 3 := by
  induction ns with
  | nil => rfl
  | cons c r ih =>
    have : flatN (c :: r) = [.string c.p, .int .i64 c.k, .int .i64 c.v] ++ flatN r := rfl
    rw [this, List.length_append, ih]
    simp; omega
theorem flatN_appendX (a b : List Nd) : flatN (a ++ b) = flatN a ++ flatN b := by unfold flatN; rw [List.flatMap_append]

/-- A cell of a block of one cell. -/
theorem one_cellX (W : World) (v : Value) (t : TypeId) : (W.alloc (.cells #[v] t)).cell? ⟨W.heap.size, 0, none⟩ = some v := by rw [World.cell?_alloc_new]; rfl

/-- A test of an item with a text: a function value without captured variables. -/
def MeetsC (v : Value) (m : Cmd → ByteArray → Bool) : Prop :=
  ∃ g : Nat, v = .func (.func g) #[] #[] ∧ (∀ args w', (callFunc g args).run Tryz.prog w' = .ok (.enter g args) w') ∧ ∀ (c : Cmd) (q : ByteArray) (W : World), c.p.size ≤ 2097152 → q.size ≤ 2097152 → Calls Tryz.prog g #[cmdV c, .string q] W (BoolPost (m c q) W)

/-- append(v, x) of one item, and where the result lies. -/
theorem wpList_append_oneC {w : World} {ops : Array Oper} {rest : List Oper} {o : Oper} {a : Act} {Q : Exit → Act → World → Prop} (hgd : o.guard = none) (s x : Operand)
    (ho : o.op = .call { callee := .builtin .append, args := #[s, x], argTypes := #[24, 24] })
    (base : Nat) (v : Value) (acc : List Cmd) (hs : a.eval s = v) (hown : w.ownsRow base 45 5 v acc.length (flatC acc))
    (ad : Addr) (cap : Nat) (z : Cmd) (hx : a.eval x = .slice (some ad) 1 cap) (hi : CmdsAt w (some ad) 1 [z]) (hlen : acc.length ≤ 2097152) (hb : base ≤ w.heap.size)
    (h : ∀ v3 w3, w3.ownsRow base 45 5 v3 (acc ++ [z]).length (flatC (acc ++ [z])) → w.grownBy w3 v.ownBlock → (v3.ownBlock = v.ownBlock ∨ v3.ownBlock = some w.heap.size) → wpList Tryz.prog ops Q rest (a.put o.dst v3) w3) : wpList Tryz.prog ops Q (o :: rest) a w := by
  obtain ⟨i0, hi0, hz0, hz1, hz2⟩ := info_parts infoCmd
  refine wpList_append_own_at w hgd s x 24 ho base 45 i0 (.agg #[.string ⟨#[]⟩, .int .i64 0, .int .i64 0, .int .i64 0, .int .i64 0]) 5 48 Tryz.underlying24 hi0 hz0 hz1 hz2 rfl (by decide) v acc.length (flatC acc) hs hown ad 1 cap (flatC [z]) hx (by rw [flatC_length]; rfl) (cmds_cells hi) (flatC_cell1 _) (by unfold maxLen; omega) (by omega) hb ?_
  intro v3 w3 h1 h2 _ h4
  exact h v3 w3 (by rw [flatC_append, List.length_append]; exact h1) h2 h4

set_option maxHeartbeats 1000000 in
set_option maxRecDepth 100000 in
theorem sift1C_call (v : Value) (m : Cmd → ByteArray → Bool) (hM : MeetsC v m) (c : Cmd) (q : ByteArray) (hc : c.p.size ≤ 2097152) (hq : q.size ≤ 2097152) (W0 : World) (B1 B2 : Nat) (h : W0.cell? ⟨B1, 0, none⟩ = some v) (d0 : W0.cell? ⟨B2, 0, none⟩ = some (.string c.p)) (d1 : W0.cell? ⟨B2, 1, none⟩ = some (.int .i64 c.fk)) (d2 : W0.cell? ⟨B2, 2, none⟩ = some (.int .i64 c.fv)) (d3 : W0.cell? ⟨B2, 3, none⟩ = some (.int .i64 c.tk)) (d4 : W0.cell? ⟨B2, 4, none⟩ = some (.int .i64 c.tv)) :
    Calls Tryz.prog 63 #[.string q, .pointer (some ⟨B1, 0, none⟩), .pointer (some ⟨B2, 0, none⟩)] W0 (BoolPost (m c q) W0) := by
  obtain ⟨g, rfl, eg, hP⟩ := hM
  obtain ⟨y, hy⟩ : ∃ y, m c q = y := ⟨_, rfl⟩
  have HP := Lib.hid (fun w => show Calls Tryz.prog g #[cmdV c, .string q] w (BoolPost y w) by rw [← hy]; exact hP c q w hc hq)
  rw [hy]
  clear hP hy hc hq
  obtain ⟨p, fk, fv, tk, tv⟩ := c
  unfold cmdV at HP
  simp only at HP d0 d1 d2 d3 d4
  go_enter Tryz.func63, Tryz.ntmps63
  go_wp2_with (go_at_fn g; refine (HP.out _).mono ?_; rintro e W1 ⟨rfl, hb1⟩; have B1 := Lib.hid hb1; clear hb1 d0 d1 d2 d3 d4)
  go_ret
  exact ⟨ret_bool rfl, B1.out⟩
theorem sift1C_rule (v : Value) (m : Cmd → ByteArray → Bool) (hM : MeetsC v m) (c : Cmd) (hc : c.p.size ≤ 2097152) (W0 : World) (B1 B2 : Nat) (h : W0.cell? ⟨B1, 0, none⟩ = some v) (d0 : W0.cell? ⟨B2, 0, none⟩ = some (.string c.p)) (d1 : W0.cell? ⟨B2, 1, none⟩ = some (.int .i64 c.fk)) (d2 : W0.cell? ⟨B2, 2, none⟩ = some (.int .i64 c.fv)) (d3 : W0.cell? ⟨B2, 3, none⟩ = some (.int .i64 c.tk)) (d4 : W0.cell? ⟨B2, 4, none⟩ = some (.int .i64 c.tv)) :
    RuleT W0 (.func (.func 63) #[] #[.pointer (some ⟨B1, 0, none⟩), .pointer (some ⟨B2, 0, none⟩)]) (m c) :=
  ⟨_, _, rfl, enters_of Tryz.func63 (by kernel_rfl) rfl, fun q W hq hW => sift1C_call v m hM c q hc hq W B1 B2 (cell_kept hW h) (cell_kept hW d0) (cell_kept hW d1) (cell_kept hW d2) (cell_kept hW d3) (cell_kept hW d4)⟩

/-- What sift tells. -/
def SiftPostC (kept held : List Cmd) (W : World) (e : Ending) (w' : World) : Prop :=
  ∃ v1 v2, e = .returned (.tuple #[v1, v2]) ∧ w'.ownsRow W.heap.size 45 5 v1 kept.length (flatC kept) ∧ w'.ownsRow W.heap.size 45 5 v2 held.length (flatC held) ∧ Below W.heap.size W w'

/-- The loop of sift: both lists so far, each in a block of its own. -/
def TwoRelC (f : Cmd → Bool) (cs : List Cmd) (W : World) (o h k : Value) (wr : World) : Prop :=
  ∃ n : Nat, k = .int .i64 n ∧ n ≤ cs.length ∧ wr.ownsRow W.heap.size 45 5 o ((cs.take n).filter (fun c => !f c)).length (flatC ((cs.take n).filter (fun c => !f c))) ∧ wr.ownsRow W.heap.size 45 5 h ((cs.take n).filter f).length (flatC ((cs.take n).filter f)) ∧ Hid (ApartV o h) ∧ Hid (Below W.heap.size W wr)

set_option maxHeartbeats 4000000 in
set_option maxRecDepth 100000 in
theorem siftC_c (a1 : Option Addr) (len1 cap1 : Nat) (cs : List Cmd) (a2 : Option Addr) (len2 cap2 : Nat) (igs : List ByteArray) (v : Value) (m : Cmd → ByteArray → Bool) (hl1 : len1 ≤ 2000000) (hl2 : len2 ≤ 2000000) (hs1 : ShortC 2097152 cs) (hs2 : ShortX 2097152 igs) (W : World) (h1 : CmdsAt W a1 len1 cs) (h2 : TextsAt W a2 len2 igs) (hM : MeetsC v m) :
    Calls Tryz.prog 37 #[.slice a1 len1 cap1, .slice a2 len2 cap2, v] W (SiftPostC (cs.filter (fun c => !igs.any (m c))) (cs.filter (fun c => igs.any (m c))) W) := by
  obtain ⟨f, hf⟩ : ∃ f : Cmd → Bool, f = (fun c => igs.any (m c)) := ⟨_, rfl⟩
  have HF := Lib.hid (fun d => congrFun hf d)
  have hff : (fun c => !igs.any (m c)) = (fun c => !f c) := by rw [hf]
  rw [hff, ← hf]
  obtain ⟨g, hv, -⟩ := id hM
  have HM := Lib.hid hM
  have HBX := Lib.hid (below_box W (.cells #[v] 84))
  have HV0 := Lib.hid (one_cellX W v 84)
  have HN := Lib.hid (h1.keep HBX.out)
  have HE := Lib.hid h1.1
  have HG := Lib.hid (h2.keep HBX.out)
  have HSH := Lib.hid hs1
  have HSI := Lib.hid hs2
  have hl' : (len1 : Int) ≤ 2000000 := by omega
  have HL2 := Lib.hid hl2
  clear hf hff h1 h2 hs1 hs2 hM hl2
  subst hv
  go_enter Tryz.func37, Tryz.ntmps37
  go_wp2
  obtain ⟨W0, hW0⟩ : ∃ X, X = W.alloc (.cells #[.func (.func g) #[] #[]] 84) := ⟨_, rfl⟩
  rw [← hW0] at HBX HV0 HN HG ⊢
  have HW0 := Lib.hid (show W0.heap.size = W.heap.size + 1 by rw [hW0]; simp)
  clear hW0
  go_loopw [6, 7, 9, 12] (fun o h _ k wr => TwoRelC f cs W0 o h k wr) (fun _ _ _ k _ => len1 - (intOf k).toNat)
  case atStart => exact ⟨0, rfl, Nat.zero_le _, World.ownsRow_nil _ _ _ _, World.ownsRow_nil _ _ _ _, Lib.hid (fun k e => by cases e), Lib.hid (Below.refl _ _)⟩
  case round =>
    obtain ⟨n, rfl, hn, hown, hown2, HAP, HB⟩ := hrel
    have HO := Lib.hid hown
    have HH := Lib.hid hown2
    clear hown hown2
    by_cases hlt : n < len1
    · have hlt' : (n : Int) < len1 := by omega
      have hw1 : IntKind.i64.wrap ((n : Int) + 1) = (n : Int) + 1 := IntWalk.i64_in _ (by omega)
      have HLT := Lib.hid hlt
      obtain ⟨b, off, d, rfl, hd, d0, d1, d2, d3, d4⟩ := (HN.out.keep HB.out).node hlt
      obtain ⟨q, hq⟩ : ∃ q, f d = q := ⟨_, rfl⟩
      have HD := Lib.hid (And.intro hd hq)
      have HFV := Lib.hid (fun (i : Nat) (u : Value) (hu : (#[.string d.p, .int .i64 d.fk, .int .i64 d.fv, .int .i64 d.tk, .int .i64 d.tv] : Array Value)[i]? = some u) => show (wr.alloc (.cells #[.string d.p, .int .i64 d.fk, .int .i64 d.fv, .int .i64 d.tk, .int .i64 d.tv] 45)).cell? ⟨wr.heap.size, i, none⟩ = some u by rw [World.cell?_alloc_new]; simpa using hu)
      have HBW := Lib.hid (below_box wr (.cells #[.string d.p, .int .i64 d.fk, .int .i64 d.fv, .int .i64 d.tk, .int .i64 d.tv] 45))
      have HC := Lib.hid (fun w (hb : Below (wr.alloc (.cells #[.string d.p, .int .i64 d.fk, .int .i64 d.fv, .int .i64 d.tk, .int .i64 d.tv] 45)).heap.size (wr.alloc (.cells #[.string d.p, .int .i64 d.fk, .int .i64 d.fv, .int .i64 d.tk, .int .i64 d.tv] 45)) w) =>
        show Calls Tryz.prog 61 #[.slice a2 len2 cap2, .func (.func 63) #[] #[.pointer (some ⟨W.heap.size, 0, none⟩), .pointer (some ⟨wr.heap.size, 0, none⟩)]] w (BoolPost q w) by
          rw [← hq, HF.out]
          exact containsFuncT_c a2 len2 cap2 igs _ _ (by have := HL2.out; omega) HSI.out w (HG.out.keep (below_next (below_next HB.out HBW.out) hb)) (sift1C_rule _ m HM.out d (HSH.out.at hd) w _ _ (cell_kept hb (cell_kept (below_next HB.out HBW.out) HV0.out)) (cell_kept hb (HFV.out 0 _ rfl)) (cell_kept hb (HFV.out 1 _ rfl)) (cell_kept hb (HFV.out 2 _ rfl)) (cell_kept hb (HFV.out 3 _ rfl)) (cell_kept hb (HFV.out 4 _ rfl))))
      have HFV2 := Lib.hid (show (wr.alloc (.cells #[.string d.p, .int .i64 d.fk, .int .i64 d.fv, .int .i64 d.tk, .int .i64 d.tv] 45)).cell? ⟨wr.heap.size, 0, none⟩ = some (.string d.p) ∧ (wr.alloc (.cells #[.string d.p, .int .i64 d.fk, .int .i64 d.fv, .int .i64 d.tk, .int .i64 d.tv] 45)).cell? ⟨wr.heap.size, 1, none⟩ = some (.int .i64 d.fk) ∧ (wr.alloc (.cells #[.string d.p, .int .i64 d.fk, .int .i64 d.fv, .int .i64 d.tk, .int .i64 d.tv] 45)).cell? ⟨wr.heap.size, 2, none⟩ = some (.int .i64 d.fv) ∧ (wr.alloc (.cells #[.string d.p, .int .i64 d.fk, .int .i64 d.fv, .int .i64 d.tk, .int .i64 d.tv] 45)).cell? ⟨wr.heap.size, 3, none⟩ = some (.int .i64 d.tk) ∧ (wr.alloc (.cells #[.string d.p, .int .i64 d.fk, .int .i64 d.fv, .int .i64 d.tk, .int .i64 d.tv] 45)).cell? ⟨wr.heap.size, 4, none⟩ = some (.int .i64 d.tv) from ⟨HFV.out 0 _ rfl, HFV.out 1 _ rfl, HFV.out 2 _ rfl, HFV.out 3 _ rfl, HFV.out 4 _ rfl⟩)
      clear HFV hn hlt hd hq
      obtain ⟨p, fk, fv, tk, tv⟩ := d
      simp only at d0 d1 d2 d3 d4 HC HFV2 HBW
      go_wp2_with fail
      refine (HC.out _ (Below.refl _ _)).mono ?_
      rintro e W1 ⟨rfl, hb1⟩
      have B1 := Lib.hid (below_next (below_next HB.out HBW.out) hb1)
      have HO1 := Lib.hid (own_below (HO.out.alloc _) hb1)
      have HH1 := Lib.hid (own_below (HH.out.alloc _) hb1)
      obtain ⟨x0, x1, x2, x3, x4⟩ := HFV2.out
      replace x0 := cell_kept hb1 x0; replace x1 := cell_kept hb1 x1; replace x2 := cell_kept hb1 x2; replace x3 := cell_kept hb1 x3; replace x4 := cell_kept hb1 x4
      clear hb1 d0 d1 d2 d3 d4
      cases q
      · go_wp2_with (at_builtin; refine wpList_append_oneC rfl _ _ rfl W0.heap.size _ ((cs.take n).filter (fun c => !f c)) rfl (HO1.out.alloc _) _ _ (⟨p, fk, fv, tk, tv⟩ : Cmd) rfl (cmds_lit _ (⟨p, fk, fv, tk, tv⟩ : Cmd)) (by have h1 := HLT.out; have h2 := sift_len (fun c => !f c) cs n; omega) (by have := B1.out.size; simp; omega) ?_; intro v4 w4 ho4 hg4 hat4)
        rw [← sift_in (f := fun c => !f c) HD.out.1 (by show (!f _) = true; rw [HD.out.2]; rfl)] at ho4
        have hh4 := sift_far (HH1.out.alloc (.cells #[.string p, .int .i64 fk, .int .i64 fv, .int .i64 tk, .int .i64 tv] 45)) hg4 (fun k e1 e2 => HAP.out k e2 e1)
        rw [← sift_out HD.out.1 HD.out.2] at hh4
        have HAP4 := Lib.hid (sift_apart HAP.out hat4 (fun k e => by have := (HH1.out.lt k e).2; simp; omega))
        have HB9 := Lib.hid ((B1.out.alloc B1.out.size _).grown hg4 (by have := B1.out.size; simp; omega) (fun k e => (HO1.out.lt k e).1))
        clear hg4 hat4
        go_roundw
        case rel => exact ⟨n + 1, by go_num, by have := HLT.out; have := HE.out; omega, ho4, hh4, HAP4, HB9⟩
        case measure => have := HLT.out; simp [intOf]; omega
      · go_wp2_with (at_builtin; refine wpList_append_oneC rfl _ _ rfl W0.heap.size _ ((cs.take n).filter f) rfl (HH1.out.alloc _) _ _ (⟨p, fk, fv, tk, tv⟩ : Cmd) rfl (cmds_lit _ (⟨p, fk, fv, tk, tv⟩ : Cmd)) (by have h1 := HLT.out; have h2 := sift_len f cs n; omega) (by have := B1.out.size; simp; omega) ?_; intro v4 w4 ho4 hg4 hat4)
        rw [← sift_in HD.out.1 HD.out.2] at ho4
        have hh4 := sift_far (HO1.out.alloc (.cells #[.string p, .int .i64 fk, .int .i64 fv, .int .i64 tk, .int .i64 tv] 45)) hg4 (fun k e1 e2 => HAP.out k e1 e2)
        rw [← sift_out (f := fun c => !f c) HD.out.1 (by show (!f _) = false; rw [HD.out.2]; rfl)] at hh4
        have HAP4 := Lib.hid (apart_turn (sift_apart (apart_turn HAP.out) hat4 (fun k e => by have := (HO1.out.lt k e).2; simp; omega)))
        have HB9 := Lib.hid ((B1.out.alloc B1.out.size _).grown hg4 (by have := B1.out.size; simp; omega) (fun k e => (HH1.out.lt k e).1))
        clear hg4 hat4
        go_roundw
        case rel => exact ⟨n + 1, by go_num, by have := HLT.out; have := HE.out; omega, hh4, ho4, HAP4, HB9⟩
        case measure => have := HLT.out; simp [intOf]; omega
    · have hge : (len1 : Int) ≤ n := by omega
      have HX := Lib.hid (show cs.take n = cs by rw [List.take_of_length_le (by have := HE.out; omega)])
      have hown := HO.out
      have hown2 := HH.out
      rw [HX.out] at hown hown2
      clear hn hlt
      go_wp2
      go_ret2
      exact ⟨_, _, rfl, own_mono hown (by have := HW0.out; omega), own_mono hown2 (by have := HW0.out; omega), below_next HBX.out HB.out⟩

/-- A test of an item with a text: a function value without captured variables. -/
def MeetsN (v : Value) (m : Nd → ByteArray → Bool) : Prop :=
  ∃ g : Nat, v = .func (.func g) #[] #[] ∧ (∀ args w', (callFunc g args).run Tryz.prog w' = .ok (.enter g args) w') ∧ ∀ (c : Nd) (q : ByteArray) (W : World), c.p.size ≤ 2097152 → q.size ≤ 2097152 → Calls Tryz.prog g #[.agg #[.string c.p, .int .i64 c.k, .int .i64 c.v], .string q] W (BoolPost (m c q) W)

/-- append(v, x) of one item, and where the result lies. -/
theorem wpList_append_oneN {w : World} {ops : Array Oper} {rest : List Oper} {o : Oper} {a : Act} {Q : Exit → Act → World → Prop} (hgd : o.guard = none) (s x : Operand)
    (ho : o.op = .call { callee := .builtin .append, args := #[s, x], argTypes := #[23, 23] })
    (base : Nat) (v : Value) (acc : List Nd) (hs : a.eval s = v) (hown : w.ownsRow base 57 3 v acc.length (flatN acc))
    (ad : Addr) (cap : Nat) (z : Nd) (hx : a.eval x = .slice (some ad) 1 cap) (hi : NodesAt w (some ad) 1 [z]) (hlen : acc.length ≤ 2097152) (hb : base ≤ w.heap.size)
    (h : ∀ v3 w3, w3.ownsRow base 57 3 v3 (acc ++ [z]).length (flatN (acc ++ [z])) → w.grownBy w3 v.ownBlock → (v3.ownBlock = v.ownBlock ∨ v3.ownBlock = some w.heap.size) → wpList Tryz.prog ops Q rest (a.put o.dst v3) w3) : wpList Tryz.prog ops Q (o :: rest) a w := by
  obtain ⟨i0, hi0, hz0, hz1, hz2⟩ := info_parts infoNode
  refine wpList_append_own_at w hgd s x 23 ho base 57 i0 (.agg #[.string ⟨#[]⟩, .int .i64 0, .int .i64 0]) 3 32 Tryz.underlying23 hi0 hz0 hz1 hz2 rfl (by decide) v acc.length (flatN acc) hs hown ad 1 cap (flatN [z]) hx (by rw [flatN_lengthX]; rfl) (nodes_cells hi) (flatN_cell1 _) (by unfold maxLen; omega) (by omega) hb ?_
  intro v3 w3 h1 h2 _ h4
  exact h v3 w3 (by rw [flatN_appendX, List.length_append]; exact h1) h2 h4

/-- What sift tells. -/
def SiftPostN (kept held : List Nd) (W : World) (e : Ending) (w' : World) : Prop :=
  ∃ v1 v2, e = .returned (.tuple #[v1, v2]) ∧ w'.ownsRow W.heap.size 57 3 v1 kept.length (flatN kept) ∧ w'.ownsRow W.heap.size 57 3 v2 held.length (flatN held) ∧ Below W.heap.size W w'

/-- The loop of sift: both lists so far, each in a block of its own. -/
def TwoRelN (f : Nd → Bool) (cs : List Nd) (W : World) (o h k : Value) (wr : World) : Prop :=
  ∃ n : Nat, k = .int .i64 n ∧ n ≤ cs.length ∧ wr.ownsRow W.heap.size 57 3 o ((cs.take n).filter (fun c => !f c)).length (flatN ((cs.take n).filter (fun c => !f c))) ∧ wr.ownsRow W.heap.size 57 3 h ((cs.take n).filter f).length (flatN ((cs.take n).filter f)) ∧ Hid (ApartV o h) ∧ Hid (Below W.heap.size W wr)

theorem touches_meets : MeetsC (.func (.func 38) #[] #[]) touchI :=
  ⟨_, rfl, enters_of Tryz.func38 (by kernel_rfl) rfl, fun c q W hc hq => touches_c c q hc hq W⟩
set_option maxHeartbeats 2000000 in
set_option maxRecDepth 100000 in
theorem siftLog_c (a1 : Option Addr) (len1 cap1 : Nat) (cs : List Cmd) (a2 : Option Addr) (len2 cap2 : Nat) (igs : List ByteArray) (hl1 : len1 ≤ 2000000) (hl2 : len2 ≤ 2000000) (hs1 : ShortC 2097152 cs) (hs2 : ShortX 2097152 igs) (W : World) (h1 : CmdsAt W a1 len1 cs) (h2 : TextsAt W a2 len2 igs) :
    Calls Tryz.prog 18 #[.slice a1 len1 cap1, .slice a2 len2 cap2] W (SiftPostC (keepL cs igs) (holdL cs igs) W) := by
  obtain ⟨v1, hv1⟩ : ∃ x, validL cs = x := ⟨_, rfl⟩
  obtain ⟨v2, hv2⟩ : ∃ x, igV igs = x := ⟨_, rfl⟩
  have HV1 := Lib.hid (fun w (hb : Below W.heap.size W w) => show Calls Tryz.prog 14 #[.slice a1 len1 cap1] w (BoolPost v1 w) by rw [← hv1]; exact implLogValid_c a1 len1 cap1 cs (by omega) hs1 w (h1.keep hb))
  have HV2 := Lib.hid (fun w (hb : Below W.heap.size W w) => show Calls Tryz.prog 36 #[.slice a2 len2 cap2] w (BoolPost v2 w) by rw [← hv2]; exact implIgnores_c a2 len2 cap2 igs (by omega) hs2 w (h2.keep hb))
  have HBAD := Lib.hid (show (v1 = false ∨ v2 = false) → keepL cs igs = [] ∧ holdL cs igs = [] by rw [← hv1, ← hv2]; exact keep_bad)
  have HS := Lib.hid (show v1 = true → v2 = true → ∀ w (hb : Below W.heap.size W w), Calls Tryz.prog 37 #[.slice a1 len1 cap1, .slice a2 len2 cap2, .func (.func 38) #[] #[]] w (SiftPostC (keepL cs igs) (holdL cs igs) w) by
    intro e1 e2 w hb
    obtain ⟨k1, k2⟩ := keep_impl (hv1.trans e1) (hv2.trans e2)
    rw [← k1, ← k2]
    exact siftC_c a1 len1 cap1 cs a2 len2 cap2 igs _ touchI hl1 hl2 hs1 hs2 w (h1.keep hb) (h2.keep hb) touches_meets)
  obtain ⟨kk, hkk⟩ : ∃ x, keepL cs igs = x := ⟨_, rfl⟩
  obtain ⟨hh, hhh⟩ : ∃ x, holdL cs igs = x := ⟨_, rfl⟩
  rw [hkk, hhh] at HBAD HS ⊢
  clear hv1 hv2 h1 h2 hs1 hs2 hl1 hl2 hkk hhh
  go_enter Tryz.func18, Tryz.ntmps18
  cases v1 with
  | false =>
    obtain ⟨rfl, rfl⟩ := HBAD.out (.inl rfl)
    go_wp2_with fail
    refine (HV1.out _ (Below.refl _ _)).mono ?_
    rintro e W1 ⟨rfl, hb1⟩
    have B1 := Lib.hid hb1
    clear hb1
    go_wp2
    go_ret2
    exact ⟨_, _, rfl, World.ownsRow_nil _ _ _ _, World.ownsRow_nil _ _ _ _, B1.out⟩
  | true =>
    go_wp2_with fail
    refine (HV1.out _ (Below.refl _ _)).mono ?_
    rintro e W1 ⟨rfl, hb1⟩
    have B1 := Lib.hid hb1
    clear hb1
    go_wp2_with fail
    refine (HV2.out _ B1.out).mono ?_
    rintro e W2 ⟨rfl, hb2⟩
    have B2 := Lib.hid (below_next B1.out hb2)
    clear hb2
    cases v2 with
    | false =>
      obtain ⟨rfl, rfl⟩ := HBAD.out (.inr rfl)
      go_wp2
      go_ret2
      exact ⟨_, _, rfl, World.ownsRow_nil _ _ _ _, World.ownsRow_nil _ _ _ _, B2.out⟩
    | true =>
      have HS2 := Lib.hid (HS.out (by first | rfl | trivial) (by first | rfl | trivial))
      clear HS HBAD
      go_wp2_with fail
      refine (HS2.out _ B2.out).mono ?_
      rintro e W3 ⟨u1, u2, rfl, ho1, ho2, hb3⟩
      have HO := Lib.hid (And.intro (own_mono ho1 B2.out.size) (own_mono ho2 B2.out.size))
      have B3 := Lib.hid (below_next B2.out hb3)
      clear ho1 ho2 hb3
      go_wp2
      go_ret2
      exact ⟨_, _, rfl, HO.out.1, HO.out.2, B3.out⟩

set_option maxHeartbeats 1000000 in
set_option maxRecDepth 100000 in
theorem implKeep_c (a1 : Option Addr) (len1 cap1 : Nat) (cs : List Cmd) (a2 : Option Addr) (len2 cap2 : Nat) (igs : List ByteArray) (hl1 : len1 ≤ 2000000) (hl2 : len2 ≤ 2000000) (hs1 : ShortC 2097152 cs) (hs2 : ShortX 2097152 igs) (W : World) (h1 : CmdsAt W a1 len1 cs) (h2 : TextsAt W a2 len2 igs) :
    Calls Tryz.prog 8 #[.slice a1 len1 cap1, .slice a2 len2 cap2] W (CmdsPost (keepL cs igs) W) := by
  have HM := Lib.hid (siftLog_c a1 len1 cap1 cs a2 len2 cap2 igs hl1 hl2 hs1 hs2 W h1 h2)
  clear hl1 hl2 hs1 hs2 h1 h2
  obtain ⟨kk, hkk⟩ : ∃ x, keepL cs igs = x := ⟨_, rfl⟩
  obtain ⟨hh, hhh⟩ : ∃ x, holdL cs igs = x := ⟨_, rfl⟩
  rw [hkk, hhh] at HM
  rw [hkk]
  clear hkk hhh
  go_enter Tryz.func8, Tryz.ntmps8
  go_wp2_with fail
  refine HM.out.mono ?_
  rintro e W1 ⟨u1, u2, rfl, ho1, ho2, hb⟩
  have HO := Lib.hid ho1
  have HB := Lib.hid hb
  clear ho1 ho2 hb
  go_wp2
  go_ret
  exact ⟨⟨_, rfl, HO.out⟩, HB.out⟩

end Go.Proofs.YtmlnakkfjecibaaGreatDoor

/-
  WALKS: impl.TreeUnder.
-/
namespace Go.Proofs.YtmlnakkfjecibaaGreatDoor
open Go.RowKit
set_option linter.unusedVariables false

theorem treeUnder_bad {ns : List Nd} {p : ByteArray} (h : validT ns = false ∨ vpB p = false) : treeUnder ns p = [] := by
  unfold treeUnder
  rcases h with h | h <;> simp [h]

theorem texts_nil {xs : List ByteArray} {W w : World} (h : xs = []) (hB : Below W.heap.size W w) : TextsPost xs W (.returned (.slice none 0 0)) w := by
  subst h; exact ⟨⟨_, rfl, World.ownsRow_nil _ _ _ _⟩, hB⟩

def pathVals (out : List Nd) (n : Nat) : List Value := ((out.take n).map Nd.p).map Value.string
theorem pathVals_next {out : List Nd} {n : Nat} {x : Nd} (h : out[n]? = some x) : pathVals out (n + 1) = pathVals out n ++ [.string x.p] := by
  unfold pathVals; rw [take_next h]; simp

/-- The loop that takes the paths. -/
def PathsRel (out : List Nd) (W : World) (W8 : World) (o i : Value) (wr : World) : Prop :=
  ∃ n : Nat, i = .int .i64 n ∧ n ≤ out.length ∧ wr.ownsRow W8.heap.size 9 1 o n (pathVals out n) ∧ Hid (Below W8.heap.size W8 wr)

set_option maxHeartbeats 4000000 in
set_option maxRecDepth 100000 in
theorem implTreeUnder_c (a : Option Addr) (len cap : Nat) (ns : List Nd) (p : ByteArray) (hl : len ≤ 2097152) (hs : Short 2097152 ns) (hp : p.size ≤ 2097152) (W : World) (hN : NodesAt W a len ns) :
    Calls Tryz.prog 10 #[.slice a len cap, .string p] W (TextsPost (treeUnder ns p) W) := by
  obtain ⟨i0, hi, hz0, hz1, hz2⟩ := info_parts infoStr
  have H := Lib.hid (treeOf_c a len cap ns hl hs W hN)
  obtain ⟨vp, hvp⟩ : ∃ vp, vpB p = vp := ⟨_, rfl⟩
  have HP := Lib.hid (fun W1 => show Calls Tryz.prog 24 #[.string p] W1 (BoolPost vp W1) by rw [← hvp]; exact pathValid_c p (by omega) W1)
  have HVP := Lib.hid hvp
  clear hN hs hvp
  go_enter Tryz.func10, Tryz.ntmps10
  go_wp2_with fail
  refine H.out.mono ?_
  rintro e W2 ⟨hB, h⟩
  rcases h with ⟨hv, rfl⟩ | ⟨hv, A, b, rfl, hA0, hT, hA⟩
  · have HG := Lib.hid (treeUnder_bad (p := p) (.inl hv))
    clear hv
    go_wp2
    refine bodyPost_ret (v := .slice none 0 0) (by simp [results, Tryz.f10, go_sem]) rfl (texts_nil HG.out hB)
  · have HV := Lib.hid hv
    have HB2 := Lib.hid hB
    have HT := Lib.hid hT
    have HA := Lib.hid hA
    have HA0 := Lib.hid hA0
    clear hv hB hT hA hA0
    go_wp2_with fail
    refine (HP.out _).mono ?_
    rintro e W3 ⟨rfl, hb3⟩
    have HB3 := Lib.hid (below_next HB2.out hb3)
    have HT3 := Lib.hid (HT.out.below hb3)
    clear hb3
    cases vp with
    | false =>
      have HG := Lib.hid (treeUnder_bad (ns := ns) (p := p) (.inr HVP.out))
      go_wp2
      refine bodyPost_ret (v := .slice none 0 0) (by simp [results, Tryz.f10, go_sem]) rfl (texts_nil HG.out HB3.out)
    | true =>
      obtain ⟨w, hw, hpw⟩ := vpB_word HVP.out
      have hwl : w.length + (4 - w.length) = 4 := by have := hw.1; omega
      have HG := Lib.hid (show treeUnder ns p = (lst (Fof ns) (4 - w.length) w).map Nd.p by
        rw [under_lst HV.out hw]
        unfold treeUnder
        rw [show validT ns = true from HV.out, show vpB p = true from HVP.out, hpw]; rfl)
      have HAT := Lib.hid (show Calls Tryz.prog 25 #[.pointer (some ⟨b, 0, none⟩), .string p] W3 (AtPost A (Fof ns) w W3) by
        rw [hpw]; exact at_c A _ w hw W3 HT3.out _ HA0.out)
      obtain ⟨out, hout⟩ : ∃ out, out = lst (Fof ns) (4 - w.length) w := ⟨_, rfl⟩
      rw [← hout] at HG
      have HND := Lib.hid (fun (A' : List UInt8 → Option Nat) (b' : Nat) (W' : World) (hT' : Trie W' A' (Fof ns)) (hb' : A' w = some b') =>
        show Calls Tryz.prog 26 #[.pointer (some ⟨b', 0, none⟩), .string p] W' (fun e W2 => OwnsNodes W'.heap.size out e W2 ∧ Below W'.heap.size W' W2) by
          rw [hpw, hout]; exact nodes_c A' _ (4 - w.length) w b' W' hwl hT' hb')
      have HLN := Lib.hid (show out.length ≤ 4096 by rw [hout]; exact lst_le (by omega) _)
      clear hw hpw hout hwl
      go_wp2_with fail
      refine HAT.out.mono ?_
      rintro e W4 ⟨A4, b4, rfl, hb4, hT4, hX4, hO4⟩
      have HB4 := Lib.hid (HB3.out.trans (hO4.below HB3.out.size HA.out))
      have HND4 := Lib.hid (HND.out A4 b4 W4 hT4 hb4)
      clear hO4 hX4 hT4 hb4 HND
      go_wp2_with fail
      refine HND4.out.mono ?_
      rintro e W8 ⟨⟨sl, rfl, ho8⟩, hb8⟩
      obtain ⟨a8, cap8, rfl, hn8⟩ := nodes_of_own ho8
      have HN8 := Lib.hid hn8
      have HB8 := Lib.hid (below_next HB4.out hb8)
      clear ho8 hb8 hn8
      go_wp2
      go_loopw [7, 28] (fun o i wr => PathsRel out W W8 o i wr) (fun _ i _ => out.length - (intOf i).toNat)
      case atStart => exact ⟨0, rfl, by omega, World.ownsRow_nil _ _ _ _, Below.refl _ _⟩
      case round =>
        obtain ⟨n, rfl, hn, hown, hB⟩ := hrel
        by_cases hlt : n < out.length
        · obtain ⟨g, off, x, rfl, hx, c0, c1, c2⟩ := (HN8.out.keep hB.out).node hlt
          have hlt' : (n : Int) < out.length := by omega
          have hlt0 := hown.lt
          have hn4096 : (n : Int) ≤ 4096 := by have := HLN.out; omega
          have HLT := Lib.hid hlt
          have HSTEP := Lib.hid (pathVals_next hx)
          have hsz8 := HB8.out.size
          have HO := Lib.hid hown
          clear hlt hn hx hown
          go_wp2_with (at_builtin; refine wpList_append_own _ rfl _ _ 28 rfl W8.heap.size 9 i0 (.string ⟨#[]⟩) 1 16 Tryz.underlying28 hi hz0 hz1 hz2 rfl (by decide) _ _ _ rfl ((HO.out.alloc _).alloc _) ⟨wr.heap.size + 1, 0, none⟩ 1 1 [.string x.p] rfl rfl (fun j u h => by have := cell_one_new (wr.alloc (.cells #[.string x.p, .int .i64 x.k, .int .i64 x.v] 57)) (.string x.p) 9 j u h; rw [World.size_alloc] at this; exact this) (fun y hy => by simp at hy; subst hy; rfl) (by unfold maxLen; have h5 := HLN.out; have h6 := HLT.out; omega) (by have h5 := HLN.out; have h6 := HLT.out; omega) (by have := hB.out.size; simp; omega) ?_; intro v3 w3 ho3 hg3 hn3)
          have B3 : Below W8.heap.size W8 w3 := ((hB.out.alloc hB.out.size _).alloc (by have := hB.out.size; simp; omega) _).grown hg3 (by have := hB.out.size; simp; omega) (fun g e => (hlt0 g e).1)
          go_roundw
          case rel => exact ⟨n + 1, by push_cast; rfl, by have := HLT.out; omega, by rw [HSTEP.out]; exact ho3, B3⟩
          case measure => have := HLT.out; simp [intOf]; omega
        · have hge : (out.length : Int) ≤ n := by omega
          have hnn : n = out.length := by omega
          subst hnn
          go_wp2
          refine bodyPost_ret (v := u7) (by simp [results, Tryz.f10, go_sem]) rfl ⟨⟨u7, rfl, ?_⟩, below_next HB8.out hB.out⟩
          rw [HG.out, List.length_map]
          unfold pathVals at hown
          rw [List.take_length] at hown
          exact own_mono hown HB8.out.size

end Go.Proofs.YtmlnakkfjecibaaGreatDoor
