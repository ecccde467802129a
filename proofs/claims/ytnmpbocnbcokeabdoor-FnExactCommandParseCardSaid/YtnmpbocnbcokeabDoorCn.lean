/-
  WALKS: impl.contentNamed (over strings.CutPrefix and strconv.Atoi), impl.plainOf.
-/
import Derived.Lib.AtoiErrMem
import Derived.Lib.AtoiAllMem
import Derived.Test.YtnmpbocnbcokeabDoorPr
import Derived.Test.YtnmpbocnbcokeabDoorAt
import Derived.Test.YtnmpbocnbcokeabDoorCd
namespace Go.Proofs.YtnmpbocnbcokeabDoor
open Go.RowKit
set_option linter.unusedVariables false

/-- strconv's two sentinels hold some value of an interface's type. -/
def ErrVars (w : World) : Prop :=
  (∃ ev, w.cell? ⟨3, 0, none⟩ = some ev ∧ (ev = .nilIface ∨ ∃ te pe, ev = .iface te pe)) ∧ (∃ ev, w.cell? ⟨4, 0, none⟩ = some ev ∧ (ev = .nilIface ∨ ∃ te pe, ev = .iface te pe))

theorem ErrVars.keep {w w' : World} (h : ErrVars w) (hb : Below w.heap.size w w') : ErrVars w' := by
  obtain ⟨⟨a, h1, h2⟩, b, h3, h4⟩ := h
  exact ⟨⟨a, cell_kept hb h1, h2⟩, b, cell_kept hb h3, h4⟩

/-- How strconv.Atoi ends: with a value and no error, or with an error. -/
def AtoiPost (s : ByteArray) (w : World) (e : Ending) (w' : World) : Prop :=
  ∃ (v : Int) (err : Value), e = .returned (.tuple #[.int .i64 v, err]) ∧ ((Lib.atoiAll s.data.toList = .ok v ∧ err = .nilIface) ∨ ((∀ u, Lib.atoiAll s.data.toList ≠ .ok u) ∧ ∃ N, err = .iface 79 (.pointer (some ⟨N, 0, none⟩)))) ∧ Below w.heap.size w w'

theorem atoi_c (s : ByteArray) (hl : s.size ≤ 281474976710656) (w : World) (hE : ErrVars w) : Calls Tryd.prog 30 #[.string s] w (AtoiPost s w) := by
  obtain ⟨⟨a, h1, h2⟩, b, h3, h4⟩ := hE
  cases h : Lib.atoiAll s.data.toList with
  | ok v =>
    refine (Any.strconv_Atoi_ok At.laysC172 s (by omega) v h w).mono ?_
    rintro e w' ⟨rfl, hw⟩
    refine ⟨v, .nilIface, rfl, .inl ⟨h, rfl⟩, ?_⟩
    rcases hw with rfl | ⟨t, rfl⟩
    · exact Below.refl _ _
    · exact Lib.bytesWorld_below _ _ _
  | «syntax» =>
    refine (Any.strconv_Atoi_syntax At.laysC172 s hl h a w h1 h2).mono ?_
    rintro e w' ⟨N, rfl, -, -, hb⟩
    exact ⟨0, _, rfl, .inr ⟨(fun u hu => by rw [h] at hu; cases hu), N, rfl⟩, hb⟩
  | range =>
    refine (Any.strconv_Atoi_range At.laysC172 s hl h b w h3 h4).mono ?_
    rintro e w' ⟨N, rfl, -, -, hb⟩
    exact ⟨_, _, rfl, .inr ⟨(fun u hu => by rw [h] at hu; cases hu), N, rfl⟩, hb⟩

set_option maxHeartbeats 400000 in
theorem cutF_yes (s : ByteArray) (w : World) (h : (s.extract 0 1).toList = [102]) (hs : 1 ≤ s.size) (hl : s.size ≤ 140737488355328) :
    Calls Tryd.prog 29 #[.string s, .string ⟨#[102]⟩] w fun e w' => e = .returned (.tuple #[.string (s.extract 1 s.size), .bool true]) ∧ w' = w := by
  have h1 : ((s.extract 0 1).toList == [102]) = true := by rw [h]; rfl
  have h2 : (1 : Int) ≤ s.size := by omega
  clear h
  go_enter Tryd.func29, Tryd.ntmps29
  go_wp2
  go_ret2
  exact ⟨rfl, rfl⟩

set_option maxHeartbeats 400000 in
theorem cutF_no (s : ByteArray) (w : World) (h : 1 ≤ s.size → ((s.extract 0 1).toList == [102]) = false) (hl : s.size ≤ 140737488355328) :
    Calls Tryd.prog 29 #[.string s, .string ⟨#[102]⟩] w fun e w' => e = .returned (.tuple #[.string s, .bool false]) ∧ w' = w := by
  by_cases hs : 1 ≤ s.size
  · have h1 := h hs
    have h2 : (1 : Int) ≤ s.size := by omega
    clear h
    go_enter Tryd.func29, Tryd.ntmps29
    go_wp2
    go_ret2
    exact ⟨rfl, rfl⟩
  · have h2 : (s.size : Int) < 1 := by omega
    clear h
    go_enter Tryd.func29, Tryd.ntmps29
    go_wp2
    go_ret2
    exact ⟨rfl, rfl⟩


/-- What contentNamed tells. -/
def NamedPost (x : Value) (ok : Bool) (w : World) (e : Ending) (w' : World) : Prop := e = .returned (.tuple #[x, .bool ok]) ∧ Below w.heap.size w w'

set_option maxHeartbeats 400000 in
theorem named_dash (w : World) : Calls Tryd.prog 18 #[.string ⟨#[45]⟩] w (NamedPost (.iface 51 (.agg #[])) true w) := by
  go_enter Tryd.func18, Tryd.ntmps18
  go_wp2
  go_ret2
  exact ⟨rfl, Below.refl _ _⟩

set_option maxHeartbeats 400000 in
theorem named_d (w : World) : Calls Tryd.prog 18 #[.string ⟨#[100]⟩] w (NamedPost (.iface 52 (.agg #[])) true w) := by
  go_enter Tryd.func18, Tryd.ntmps18
  go_wp2
  go_ret2
  exact ⟨rfl, Below.refl _ _⟩

theorem bytes_ne {s : ByteArray} {l : List UInt8} (h : s ≠ ⟨l.toArray⟩) : (s.toList == l) = false := by
  rw [beq_eq_false_iff_ne, Lib.toList_data]
  exact fun e => h (by rw [← e, Lib.mk_data])

theorem first_data {s : ByteArray} (h : (s.extract 0 1).toList = [102]) (hs : 1 ≤ s.size) : s.data.toList.head? = some 102 := by
  obtain ⟨⟨l⟩⟩ := s
  rw [Lib.toList_data] at h
  cases l with
  | nil => simp [ByteArray.size] at hs
  | cons c r =>
    have : ((⟨(c :: r).toArray⟩ : ByteArray).extract 0 1).data.toList = [c] := by rw [ByteArray.data_extract]; simp
    rw [this] at h
    simpa using h

set_option maxHeartbeats 400000 in
theorem named_other (s : ByteArray) (h45 : s ≠ ⟨#[45]⟩) (h100 : s ≠ ⟨#[100]⟩) (hl : s.size ≤ 140737488355328) (hp : 1 ≤ s.size → ((s.extract 0 1).toList == [102]) = false) (w : World) (hE : ErrVars w) :
    Calls Tryd.prog 18 #[.string s] w (NamedPost .nilIface false w) := by
  have HC := Lib.hid (fun w => cutF_no s w hp hl)
  have HA := Lib.hid (atoi_c s (by omega) w hE)
  have n1 : (s.toList == [45]) = false := bytes_ne (l := [45]) h45
  have n2 : (s.toList == [100]) = false := bytes_ne (l := [100]) h100
  clear h45 h100 hp hE
  go_enter Tryd.func18, Tryd.ntmps18
  go_wp2_with fail
  refine (HC.out _).mono ?_; rintro e w1 ⟨rfl, rfl⟩
  go_wp2_with fail
  refine HA.out.mono ?_; rintro e w2 ⟨v, err, rfl, ha, hb⟩
  have HH := Lib.hid ha
  clear ha n1 n2
  go_wp2
  go_ret2
  exact ⟨rfl, hb⟩

set_option maxHeartbeats 400000 in
theorem named_bad (s : ByteArray) (hp : (s.extract 0 1).toList = [102]) (hs : 1 ≤ s.size) (hl : s.size ≤ 140737488355328) (ha : ∀ u, Lib.atoiAll (s.extract 1 s.size).data.toList ≠ .ok u) (w : World) (hE : ErrVars w) :
    Calls Tryd.prog 18 #[.string s] w (NamedPost .nilIface false w) := by
  have HC := Lib.hid (fun w => cutF_yes s w hp hs hl)
  have hz : (s.extract 1 s.size).size ≤ 281474976710656 := by rw [ByteArray.size_extract]; omega
  have HA := Lib.hid (atoi_c (s.extract 1 s.size) hz w hE)
  have hd := first_data hp hs
  have n1 : (s.toList == [45]) = false := bytes_ne (l := [45]) (fun e => by rw [e] at hd; simp at hd)
  have n2 : (s.toList == [100]) = false := bytes_ne (l := [100]) (fun e => by rw [e] at hd; simp at hd)
  have HN := Lib.hid ha
  generalize s.extract 1 s.size = t at HA HC HN
  clear hp hd hE hz ha hs hl
  go_enter Tryd.func18, Tryd.ntmps18
  go_wp2_with fail
  refine (HC.out _).mono ?_; rintro e w1 ⟨rfl, rfl⟩
  clear n1 n2
  go_wp2_with fail
  refine HA.out.mono ?_; rintro e w2 ⟨v, err, rfl, ha, hb⟩
  obtain ⟨N, rfl⟩ : ∃ N, err = .iface 79 (.pointer (some ⟨N, 0, none⟩)) := by
    rcases ha with ⟨h, -⟩ | ⟨-, h⟩
    · exact absurd h (HN.out v)
    · exact h
  clear ha
  go_wp2
  go_ret2
  exact ⟨rfl, hb⟩

set_option maxHeartbeats 400000 in
theorem named_file (s : ByteArray) (hp : (s.extract 0 1).toList = [102]) (hs : 1 ≤ s.size) (hl : s.size ≤ 140737488355328) (u : Int) (hu : Lib.atoiAll (s.extract 1 s.size).data.toList = .ok u) (w : World) (hE : ErrVars w) :
    Calls Tryd.prog 18 #[.string s] w (NamedPost (.iface 60 (.agg #[.int .i64 u])) true w) := by
  have HC := Lib.hid (fun w => cutF_yes s w hp hs hl)
  have hz : (s.extract 1 s.size).size ≤ 281474976710656 := by rw [ByteArray.size_extract]; omega
  have HA := Lib.hid (atoi_c (s.extract 1 s.size) hz w hE)
  have hd := first_data hp hs
  have n1 : (s.toList == [45]) = false := bytes_ne (l := [45]) (fun e => by rw [e] at hd; simp at hd)
  have n2 : (s.toList == [100]) = false := bytes_ne (l := [100]) (fun e => by rw [e] at hd; simp at hd)
  have HN := Lib.hid hu
  generalize s.extract 1 s.size = t at HA HC HN
  clear hp hd hE hz hu hs hl
  go_enter Tryd.func18, Tryd.ntmps18
  go_wp2_with fail
  refine (HC.out _).mono ?_; rintro e w1 ⟨rfl, rfl⟩
  clear n1 n2
  go_wp2_with fail
  refine HA.out.mono ?_; rintro e w2 ⟨v, err, rfl, ha, hb⟩
  obtain ⟨rfl, rfl⟩ : v = u ∧ err = .nilIface := by
    rcases ha with ⟨h, h2⟩ | ⟨h, -⟩
    · rw [HN.out] at h; injection h with h; exact ⟨h.symm, h2⟩
    · exact absurd HN.out (h u)
  clear ha
  go_wp2
  go_ret2
  exact ⟨rfl, hb⟩

/-- A content in a new block of a result. -/
theorem con_ret (fn : Func) (hf : fn.results = #[.cell 2 23]) {W W' : World} {a b : Value} {k v : Int} {tmps : Array Value} (hT : Two W' W.heap.size a b) (hB : Below W.heap.size W W') (ht : tmps[2]? = some (.pointer (some ⟨W.heap.size, 0, none⟩))) :
    bodyPost Tryd.prog fn (ConRet k v W) .ret ⟨tmps, []⟩ ((W'.setCell ⟨W.heap.size, 0, none⟩ (.int .i64 k)).setCell ⟨W.heap.size, 1, none⟩ (.int .i64 v)) :=
  bodyPost_ret (con_results fn hf _ W.heap.size k v _ ht (let h2 := (hT.set0 (c := .int .i64 k)).set1 (c := .int .i64 v); ⟨h2.1, h2.2.1⟩)) rfl
    ⟨rfl, below_setCell (below_setCell hB _ _ (Nat.le_refl _)) _ _ (Nat.le_refl _)⟩

theorem con_ret_at (fn : Func) (hf : fn.results = #[.cell 2 23]) {W W' : World} {k v : Int} {tmps : Array Value} (n : Nat) (h : W'.cell? ⟨n, 0, none⟩ = some (.int .i64 k) ∧ W'.cell? ⟨n, 1, none⟩ = some (.int .i64 v))
    (hB : Below W.heap.size W W') (ht : tmps[2]? = some (.pointer (some ⟨n, 0, none⟩))) : bodyPost Tryd.prog fn (ConRet k v W) .ret ⟨tmps, []⟩ W' :=
  bodyPost_ret (con_results fn hf _ n k v _ ht h) rfl ⟨rfl, hB⟩

theorem two_alloc (w : World) (k v : Int) (t : TypeId) (o : Obj) : ((w.alloc (.cells #[.int .i64 k, .int .i64 v] t)).alloc o).cell? ⟨w.heap.size, 0, none⟩ = some (.int .i64 k) ∧ ((w.alloc (.cells #[.int .i64 k, .int .i64 v] t)).alloc o).cell? ⟨w.heap.size, 1, none⟩ = some (.int .i64 v) := by
  constructor
  · rw [World.cell?_alloc_lt _ _ _ (by simp), World.cell?_alloc_new]; rfl
  · rw [World.cell?_alloc_lt _ _ _ (by simp), World.cell?_alloc_new]; rfl

theorem ta_nd (W : World) : (Instr.typeAssert (.iface 51 (.agg #[])) 42 52 true).run Tryd.prog W = .ok (.tuple #[.agg #[], .bool false]) W := by kernel_rfl
theorem ta_nf (W : World) : (Instr.typeAssert (.iface 51 (.agg #[])) 42 60 true).run Tryd.prog W = .ok (.tuple #[.agg #[.int .i64 0], .bool false]) W := by kernel_rfl
theorem ta_dd (W : World) : (Instr.typeAssert (.iface 52 (.agg #[])) 42 52 true).run Tryd.prog W = .ok (.tuple #[.agg #[], .bool true]) W := by kernel_rfl
theorem ta_fd (v : Int) (W : World) : (Instr.typeAssert (.iface 60 (.agg #[.int .i64 v])) 42 52 true).run Tryd.prog W = .ok (.tuple #[.agg #[], .bool false]) W := by kernel_rfl
theorem ta_ff (v : Int) (W : World) : (Instr.typeAssert (.iface 60 (.agg #[.int .i64 v])) 42 60 true).run Tryd.prog W = .ok (.tuple #[.agg #[.int .i64 v], .bool true]) W := by kernel_rfl

set_option maxHeartbeats 400000 in
set_option maxRecDepth 100000 in
theorem plainOf_nothing (w : World) : Calls Tryd.prog 19 #[.iface 51 (.agg #[])] w (ConRet 0 0 w) := by
  have m1 := fun W => ta_nd W
  have m2 := fun W => ta_nf W
  go_enter Tryd.func19, Tryd.ntmps19
  go_wp2
  exact con_ret_at _ rfl w.heap.size ⟨by rw [World.cell?_alloc_new]; rfl, by rw [World.cell?_alloc_new]; rfl⟩ (below_box _ _) rfl

set_option maxHeartbeats 400000 in
set_option maxRecDepth 100000 in
theorem plainOf_directory (w : World) : Calls Tryd.prog 19 #[.iface 52 (.agg #[])] w (ConRet 1 0 w) := by
  have m1 := fun W => ta_dd W
  go_enter Tryd.func19, Tryd.ntmps19
  go_wp2
  exact con_ret_at _ rfl w.heap.size (two_alloc _ _ _ _ _) ((below_box _ _).alloc (by simp) _) rfl

set_option maxHeartbeats 400000 in
set_option maxRecDepth 100000 in
theorem plainOf_file (v : Int) (w : World) : Calls Tryd.prog 19 #[.iface 60 (.agg #[.int .i64 v])] w (ConRet 2 v w) := by
  have m1 := fun W => ta_fd v W
  have m2 := fun W => ta_ff v W
  go_enter Tryd.func19, Tryd.ntmps19
  go_wp2
  exact con_ret_at _ rfl w.heap.size (two_alloc _ _ _ _ _) ((below_box _ _).alloc (by simp) _) rfl

end Go.Proofs.YtnmpbocnbcokeabDoor
