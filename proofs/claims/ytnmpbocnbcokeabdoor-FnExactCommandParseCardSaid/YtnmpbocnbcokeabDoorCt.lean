/-
  WALKS: the texts of contents: impl.ContentText, spec.l6Dec, spec.ContentText.
-/
import Derived.Laws.Concat
import Derived.Laws.BytesString
import Derived.Laws.Cells
import Derived.Deep.RegionWith
import Derived.Test.YtnmpbocnbcokeabDoorCo
import Derived.Test.YtnmpbocnbcokeabDoorIa
namespace Go.Proofs.YtnmpbocnbcokeabDoor
open Go.RowKit
set_option linter.unusedVariables false

/-- The decimal of a number. -/
def decB (n : Nat) : ByteArray := ⟨(Lib.decDigits n).toArray⟩

theorem decB_small (n : Nat) (h : n < 10) : decB n = ⟨#[UInt8.ofNat (48 + n)]⟩ := by unfold decB; rw [Lib.decDigits_one h]
theorem decB_more (n : Nat) (h : ¬ n < 10) : decB n = decB (n / 10) ++ ⟨#[UInt8.ofNat (48 + n % 10)]⟩ := by
  unfold decB
  conv => lhs; rw [Lib.decDigits]
  rw [dif_neg h]
  apply ByteArray.ext
  simp [ByteArray.data_append]

theorem conv1 (W : World) (g : Nat) (x : Int) (h : W.cell? ⟨g, 0, none⟩ = some (.int .u8 x)) :
    (convert 66 9 (.slice (some ⟨g, 0, none⟩) 1 1)).run Tryd.prog W = .ok (.string ⟨#[UInt8.ofNat x.toNat]⟩) W := by
  rw [run_convert_bytes_string (e := 5) W _ _ _ _ _ Tryd.underlying66 Tryd.underlying5 Tryd.underlying9]
  refine (run_bytesToString W ⟨g, 0, none⟩ 1 1 [x] ?_).trans ?_
  · have hl := run_loadCells_list (P := Tryd.prog) (w := W) ⟨g, 0, none⟩ [.int .u8 x] (by
      intro j v hj
      match j, hj with
      | 0, hj => simp at hj; subst hj; simpa [Addr.add] using h)
    simpa using hl
  · rfl

theorem convN (W : World) (x : Int) (t : TypeId) :
    (convert 66 9 (.slice (some ⟨W.heap.size, 0, none⟩) 1 1)).run Tryd.prog (W.alloc (.cells #[.int .u8 x] t)) = .ok (.string ⟨#[UInt8.ofNat x.toNat]⟩) (W.alloc (.cells #[.int .u8 x] t)) :=
  conv1 _ _ _ (by rw [World.cell?_alloc_new]; rfl)

def decCell (n : Nat) : Obj := .cells #[.int .u8 (48 + (n : Int))] 5

set_option maxHeartbeats 400000 in
theorem l6Dec_small (n : Nat) (hn : n < 10) (w : World) : Calls Tryd.prog 23 #[.int .i64 n] w fun e w' => e = .returned (.string (decB n)) ∧ w' = w.alloc (decCell n) := by
  have hn' : (n : Int) < 10 := by omega
  have HC := fun W => convN W (48 + n) 5
  go_enter Tryd.func23, Tryd.ntmps23
  go_wp2
  go_ret
  rw [decB_small n hn]
  exact ⟨rfl, rfl⟩

def DecPost (n : Nat) (w : World) (e : Ending) (w' : World) : Prop := e = .returned (.string (decB n)) ∧ Below w.heap.size w w'

theorem dec_end {n : Nat} {s : ByteArray} {w w' : World} (h : decB n = s) (k : Below w.heap.size w w') : DecPost n w (.returned (.string s)) w' := ⟨by rw [h], k⟩

theorem below_two (w : World) (o1 o2 : Obj) : Below w.heap.size w ((w.drew.alloc o1).alloc o2) :=
  ((Below.refl w.heap.size w).drew.alloc (Nat.le_refl _) o1).alloc (by simp) o2

set_option maxHeartbeats 400000 in
set_option maxRecDepth 100000 in
theorem l6Dec_two (n : Nat) (hn : 10 ≤ n) (hn2 : n < 100) (w : World) : Calls Tryd.prog 23 #[.int .i64 n] w (DecPost n w) := by
  obtain ⟨a, b, rfl, ha, hb, ha1⟩ : ∃ a b, n = a * 10 + b ∧ a < 10 ∧ b < 10 ∧ 1 ≤ a := ⟨n / 10, n % 10, by omega, by omega, by omega, by omega⟩
  have q : IntKind.i64.wrap (((a * 10 + b : Nat) : Int).tdiv 10) = (a : Int) := by
    rw [Int.tdiv_eq_ediv_of_nonneg (by omega), IntWalk.i64_in _ (by omega)]; omega
  have r : ((a * 10 + b : Nat) : Int).tmod 10 = (b : Int) := by
    rw [Int.tmod_eq_emod_of_nonneg (by omega)]; omega
  have HI := Lib.hid (fun w => l6Dec_small a ha w)
  obtain ⟨dg, hdg, hdg1⟩ : ∃ dg : ByteArray, dg = ⟨#[UInt8.ofNat (48 + b)]⟩ ∧ dg.size ≤ 1 := ⟨_, rfl, Nat.le_refl _⟩
  have HC : ∀ W g, W.cell? ⟨g, 0, none⟩ = some (.int .u8 (48 + (b : Int))) → (convert 66 9 (.slice (some ⟨g, 0, none⟩) 1 1)).run Tryd.prog W = .ok (.string dg) W := by
    intro W g h
    rw [hdg]; exact conv1 W g (48 + b) h
  have hsa : (decB a).size ≤ 1 := by rw [decB_small a ha]; exact Nat.le_refl _
  have hn' : (10 : Int) ≤ ((a * 10 + b : Nat) : Int) := by omega
  have w1 : IntKind.i64.wrap (48 + (b : Int)) = 48 + (b : Int) := IntWalk.i64_in _ (by omega)
  have w2 : IntKind.u8.wrap (48 + (b : Int)) = 48 + (b : Int) := by show (48 + (b : Int)) % 256 = _; omega
  have HD := Lib.hid (show decB (a * 10 + b) = decB a ++ dg by rw [hdg, decB_more _ (by omega), show (a * 10 + b) / 10 = a by omega, show (a * 10 + b) % 10 = b by omega])
  clear hn hn2 ha hb ha1 hdg
  generalize ((a * 10 + b : Nat) : Int) = m at *
  go_enter Tryd.func23, Tryd.ntmps23
  go_wp2
  go_region_with (go_at_call 23; refine (HI.out _).mono ?_; rintro e W2 ⟨rfl, rfl⟩; unfold decCell)
  all_goals (go_wp2; go_ret; exact dec_end HD.out (below_two _ _ _))

/-- spec.l6Dec below a hundred. -/
theorem l6Dec_c (n : Nat) (hn : n < 100) (w : World) : Calls Tryd.prog 23 #[.int .i64 n] w (DecPost n w) := by
  by_cases h : n < 10
  · refine (l6Dec_small n h w).mono ?_
    rintro e W1 ⟨rfl, rfl⟩
    exact ⟨rfl, below_box _ _⟩
  · exact l6Dec_two n (by omega) hn w

theorem decB_size (n : Nat) (hn : n < 100) : (decB n).size ≤ 2 := by
  unfold decB
  rw [Lib.size_eq]
  show (Lib.decDigits n).length ≤ 2
  by_cases h : n < 10
  · rw [Lib.decDigits_one h]; simp
  · rw [Lib.decDigits_two h hn]; simp

/-- A text, and nothing that was there has turned. -/
def TextPost (s : ByteArray) (w : World) (e : Ending) (w' : World) : Prop := e = .returned (.string s) ∧ Below w.heap.size w w'

/-- The text of a content; empty if it is none. -/
def conText (k v : Int) : ByteArray :=
  if validB k v = true then (if k = 0 then ⟨#[45]⟩ else if k = 1 then ⟨#[100]⟩ else ⟨#[102]⟩ ++ decB v.toNat) else ⟨#[]⟩

theorem text_end {s t : ByteArray} {w w' : World} (h : t = s) (k : Below w.heap.size w w') : TextPost s w (.returned (.string t)) w' := ⟨by rw [h], k⟩

set_option maxHeartbeats 400000 in
theorem fileText_c (n : Nat) (hn : n < 100) (w : World) : Calls Tryd.prog 95 #[.agg #[.int .i64 n]] w (TextPost (⟨#[102]⟩ ++ decB n) w) := by
  have HI := Lib.hid (fun w => itoa_c n hn w)
  obtain ⟨s, hs, hl⟩ : ∃ s, s = decB n ∧ s.size ≤ 3 := ⟨_, rfl, by have := decB_size n hn; omega⟩
  have HS := Lib.hid hs
  have HI2 : Hid (∀ w, Calls Tryd.prog 62 #[.int .i64 n] w fun e w' => e = .returned (.string s) ∧ w' = w) := by rw [hs]; exact HI
  clear HI hn hs
  go_enter Tryd.func95, Tryd.ntmps95
  go_wp2_with fail
  refine (HI2.out _).mono ?_
  rintro e W2 ⟨rfl, rfl⟩
  go_wp2
  go_ret
  exact text_end (by rw [HS.out]) (below_box _ _)

theorem method_nothing (W : World) : (method 229 51 (.agg #[]) "loop.example/filereconciler/impl.text").run Tryd.prog W = .ok (93, .agg #[]) W := by kernel_rfl
theorem method_directory (W : World) : (method 229 52 (.agg #[]) "loop.example/filereconciler/impl.text").run Tryd.prog W = .ok (94, .agg #[]) W := by kernel_rfl
theorem method_file (v : Int) (W : World) : (method 229 60 (.agg #[.int .i64 v]) "loop.example/filereconciler/impl.text").run Tryd.prog W = .ok (95, .agg #[.int .i64 v]) W := by kernel_rfl

theorem conText_bad {k v : Int} (h : validB k v = false) : (⟨#[]⟩ : ByteArray) = conText k v := by unfold conText; rw [h]; rfl

set_option maxHeartbeats 400000 in
theorem implText_c (k v : Int) (w : World) : Calls Tryd.prog 20 #[con k v] w (TextPost (conText k v) w) := by
  have HC := Lib.hid (fun w => contentOf_c k v w)
  have HF := Lib.hid (fun n hn w => fileText_c n hn w)
  have HV := conOf_valid k v
  unfold con at HC ⊢
  by_cases h0 : k = 0 ∧ v = 0
  · obtain ⟨rfl, rfl⟩ := h0
    have M := Lib.hid (fun W => method_nothing W)
    clear HV
    go_enter Tryd.func20, Tryd.ntmps20
    go_wp2_with fail
    refine (HC.out _).mono ?_
    rintro e W2 ⟨rfl, hb2⟩
    rw [show conOf 0 0 = (.iface 51 (.agg #[]), true) from rfl]
    have m := M.out
    go_wp2
    go_ret
    exact text_end rfl (below_next (below_box _ _) (hb2.alloc hb2.size _))
  · by_cases h1 : k = 1 ∧ v = 0
    · obtain ⟨rfl, rfl⟩ := h1
      have M := Lib.hid (fun W => method_directory W)
      clear HV h0
      go_enter Tryd.func20, Tryd.ntmps20
      go_wp2_with fail
      refine (HC.out _).mono ?_
      rintro e W2 ⟨rfl, hb2⟩
      rw [show conOf 1 0 = (.iface 52 (.agg #[]), true) from rfl]
      have m := M.out
      go_wp2
      go_ret
      exact text_end rfl (below_next (below_box _ _) (hb2.alloc hb2.size _))
    · by_cases h2 : k = 2 ∧ 0 ≤ v ∧ v ≤ 99
      · obtain ⟨rfl, hv0, hv9⟩ := h2
        obtain ⟨n, rfl⟩ := Int.eq_ofNat_of_zero_le hv0
        have M := Lib.hid (fun W => method_file n W)
        have HT := Lib.hid (HF.out n (by omega))
        have HX := Lib.hid (show (⟨#[102]⟩ : ByteArray) ++ decB n = conText 2 n by
          have : validB 2 (n : Int) = true := by unfold validB; simp; omega
          unfold conText; rw [this]; rfl)
        have HO := Lib.hid (show conOf 2 (n : Int) = (.iface 60 (.agg #[.int .i64 n]), true) by unfold conOf; simp; omega)
        clear HV h0 h1 hv0 hv9
        go_enter Tryd.func20, Tryd.ntmps20
        go_wp2_with fail
        refine (HC.out _).mono ?_
        rintro e W2 ⟨rfl, hb2⟩
        rw [HO.out]
        have m := M.out
        go_wp2_with fail
        refine (HT.out _).mono ?_
        rintro e W3 ⟨rfl, hb3⟩
        rw [HX.out]
        clear m
        go_wp2
        go_ret
        exact text_end rfl (below_next (below_box _ _) (below_next hb2 hb3))
      · have HX := Lib.hid (conText_bad (k := k) (v := v) (by unfold validB; simp; omega))
        have HO := Lib.hid (show conOf k v = (.nilIface, false) by unfold conOf; rw [if_neg h0, if_neg h1, if_neg h2])
        clear HV h0 h1 h2
        go_enter Tryd.func20, Tryd.ntmps20
        go_wp2_with fail
        refine (HC.out _).mono ?_
        rintro e W2 ⟨rfl, hb2⟩
        rw [HO.out]
        go_wp2
        go_ret
        exact text_end HX.out (below_next (below_box _ _) hb2)

set_option maxHeartbeats 400000 in
theorem specText_c (k v : Int) (w : World) : Calls Tryd.prog 14 #[con k v] w (TextPost (conText k v) w) := by
  have HC := Lib.hid (fun w => specConValid_c k v w)
  have HF := Lib.hid (fun n hn w => l6Dec_c n hn w)
  unfold con at HC ⊢
  by_cases hv : validB k v = true
  · by_cases h0 : k = 0
    · subst h0
      have HX := Lib.hid (show (⟨#[45]⟩ : ByteArray) = conText 0 v by unfold conText; rw [hv]; rfl)
      rw [hv] at HC
      clear hv
      go_enter Tryd.func14, Tryd.ntmps14
      go_wp2_with fail
      refine (HC.out _).mono ?_
      rintro e W2 ⟨rfl, hb2⟩
      have c0 : W2.cell? ⟨w.heap.size, 0, none⟩ = some (.int .i64 0) := (hb2.cell (by simp)).trans (by rw [World.cell?_alloc_new]; rfl)
      go_wp2
      go_ret
      exact text_end HX.out (below_next (below_box _ _) hb2)
    · by_cases h1 : k = 1
      · subst h1
        have HX := Lib.hid (show (⟨#[100]⟩ : ByteArray) = conText 1 v by unfold conText; rw [hv]; rfl)
        rw [hv] at HC
        clear hv h0
        go_enter Tryd.func14, Tryd.ntmps14
        go_wp2_with fail
        refine (HC.out _).mono ?_
        rintro e W2 ⟨rfl, hb2⟩
        have c0 : W2.cell? ⟨w.heap.size, 0, none⟩ = some (.int .i64 1) := (hb2.cell (by simp)).trans (by rw [World.cell?_alloc_new]; rfl)
        go_wp2
        go_ret
        exact text_end HX.out (below_next (below_box _ _) hb2)
      · obtain ⟨rfl, n, rfl, hn⟩ : k = 2 ∧ ∃ n : Nat, v = n ∧ n < 100 := by
          have hv' := hv
          unfold validB at hv'
          simp [h0, h1] at hv'
          exact ⟨hv'.1, v.toNat, by omega, by omega⟩
        have HX := Lib.hid (show (⟨#[102]⟩ : ByteArray) ++ decB n = conText 2 n by unfold conText; rw [hv]; rfl)
        rw [hv] at HC
        obtain ⟨s, hs, hl⟩ : ∃ s, s = decB n ∧ s.size ≤ 3 := ⟨_, rfl, by have := decB_size n hn; omega⟩
        have HT := HF.out n hn
        unfold DecPost at HT
        rw [← hs] at HT HX
        have HT := Lib.hid HT
        clear hv h0 h1 HF hn hs
        go_enter Tryd.func14, Tryd.ntmps14
        go_wp2_with fail
        refine (HC.out _).mono ?_
        rintro e W2 ⟨rfl, hb2⟩
        have c0 : W2.cell? ⟨w.heap.size, 0, none⟩ = some (.int .i64 2) := (hb2.cell (by simp)).trans (by rw [World.cell?_alloc_new]; rfl)
        have c1 : W2.cell? ⟨w.heap.size, 1, none⟩ = some (.int .i64 n) := (hb2.cell (by simp)).trans (by rw [World.cell?_alloc_new]; rfl)
        go_wp2_with fail
        refine (HT.out _).mono ?_
        rintro e W3 ⟨rfl, hb3⟩
        clear c0 c1
        go_wp2
        go_ret
        exact text_end HX.out (below_next (below_box _ _) (below_next hb2 hb3))
  · have hv' : validB k v = false := by simpa using hv
    have HX := Lib.hid (conText_bad hv')
    rw [hv'] at HC
    clear hv hv'
    go_enter Tryd.func14, Tryd.ntmps14
    go_wp2_with fail
    refine (HC.out _).mono ?_
    rintro e W2 ⟨rfl, hb2⟩
    go_wp2
    go_ret
    exact text_end HX.out (below_next (below_box _ _) hb2)

theorem conText_empty (k v : Int) : (conText k v).toList.isEmpty = !validB k v := by
  unfold conText
  split
  · rename_i h
    rw [h]
    split
    · rw [Lib.toList_data]; rfl
    · split
      · rw [Lib.toList_data]; rfl
      · rw [Lib.toList_data, ByteArray.data_append]; simp
  · rename_i h
    have : validB k v = false := by simpa using h
    rw [this, Lib.toList_data]; rfl

end Go.Proofs.YtnmpbocnbcokeabDoor
