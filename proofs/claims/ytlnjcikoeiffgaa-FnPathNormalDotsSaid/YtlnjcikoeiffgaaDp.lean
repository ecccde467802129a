/-
  WALKS: the paths that are drawn (spec.l91Path, DrawPath..).
-/
import Derived.Laws.Concat
import Derived.Test.YtlnjcikoeiffgaaDr
import Derived.Test.YtlnjcikoeiffgaaPu
namespace Go.Proofs.Ytlnjcikoeiffgaa
open Go.RowKit
set_option linter.unusedVariables false

theorem RdAt.kept {W W' : World} {B p : Nat} (h : RdAt W B p) (hg : W.grownBy W' none) : RdAt W' B p := by
  obtain ⟨a, len, cap, c0, c1, f1, hl, hlc, hcm, hp1, hrow⟩ := h
  have hB : B < W.heap.size := World.block_lt_of_cell? W _ c0
  refine ⟨a, len, cap, hg.cell c0 (by simp), hg.cell c1 (by simp), (World.frozen?_of_block (hg.block B hB (by simp))).trans f1, hl, hlc, hcm, hp1, ?_⟩
  rcases hrow with h0 | ⟨b, off, zs, ha, hb, hzl, hc, hw⟩
  · exact .inl h0
  · exact .inr ⟨b, off, zs, ha, hb, hzl, fun i hi => hg.cell (hc i hi) (by simp), hw⟩

theorem RdAt.lt {W : World} {B p : Nat} (h : RdAt W B p) : B < W.heap.size := by
  obtain ⟨a, len, cap, c0, _⟩ := h
  exact World.block_lt_of_cell? W _ c0

theorem grownBy_none {W W' : World} (h : W.grownBy W' none) (row : Option Nat) : W.grownBy W' row := ⟨h.os, h.tape, h.output, h.size, fun k hk _ => h.block k hk (by simp)⟩

theorem below_grown {W W' : World} (h : Below W.heap.size W W') : W.grownBy W' none := ⟨h.os, h.tape, h.output, h.size, fun k hk _ => h.block k hk⟩

/-- 'of' at a list that is written out on the spot. -/
theorem of_lit (B p : Nat) (xs : List ByteArray) (n : Nat) (hn : xs.length = n) (hx : 1 ≤ n) (hx2 : n ≤ 1000) (W : World) (hp : p < 30000) (hR : RdAt W B p) (cs : Array Value) (hcs : cs = (xs.map Value.string).toArray) :
    Calls Try.prog 42 #[.pointer (some ⟨B, 0, none⟩), .slice (some ⟨W.heap.size, 0, none⟩) n n] (W.alloc (.cells cs 9)) (OfPost B p xs W) := by
  have hg : W.grownBy (W.alloc (.cells cs 9)) none := World.grownBy_alloc W _ none
  subst hn
  refine (of_c B p W.heap.size xs.length xs hx hx2 (by have := hR.lt; omega) _ hp (hR.kept hg) ?_).mono ?_
  · intro j x hj
    subst hcs
    rw [World.cell?_alloc_new]
    simp [hj]
  · rintro e W' ⟨x, hx, he, hR', hg'⟩
    exact ⟨x, hx, he, hR', grownBy_trans (grownBy_none hg _) hg'⟩

/-- A text of modest length; the reader some places on. -/
def StrPost (B p d m : Nat) (W : World) (e : Ending) (W' : World) : Prop :=
  ∃ (s : ByteArray) (q : Nat), e = .returned (.string s) ∧ s.size ≤ m ∧ q ≤ p + d ∧ RdAt W' B q ∧ W.grownBy W' (some B)

def oddTexts : List ByteArray := [⟨#[]⟩, ⟨#[47]⟩, ⟨#[97]⟩, ⟨#[47, 101]⟩, ⟨#[47, 97, 47]⟩, ⟨#[47, 47, 97]⟩, ⟨#[47, 97, 47, 98, 47, 99, 47, 100, 47, 97]⟩, ⟨#[47, 97, 98]⟩]
def letterTexts : List ByteArray := [⟨#[97]⟩, ⟨#[98]⟩, ⟨#[97]⟩, ⟨#[98]⟩, ⟨#[99]⟩, ⟨#[100]⟩]

def PathRel (B p : Nat) (n : Int) (W : World) (out i : Value) (wr : World) : Prop :=
  ∃ (k : Nat) (s : ByteArray), i = .int .i64 k ∧ k ≤ 4 ∧ (k : Int) ≤ 1 + n ∧ out = .string s ∧ s.size = 2 * k ∧ RdAt wr B (p + 3 + k) ∧ W.grownBy wr (some B)

set_option maxHeartbeats 1000000 in
set_option maxRecDepth 100000 in
theorem l91Path_c (B p : Nat) (W : World) (hp : p < 29000) (hR : RdAt W B p) :
    Calls Try.prog 31 #[.pointer (some ⟨B, 0, none⟩)] W (StrPost B p 7 64 W) := by
  have HP1 := Lib.hid (fun W hR => pick_c B p 24 (by omega) (by omega) W (by omega) hR)
  go_enter Try.func31, Try.ntmps31
  go_wp2_with fail
  refine (HP1.out W hR).mono ?_
  rintro e W1 ⟨r, rfl, h0, h1, hR1, hg1⟩
  by_cases hr : r = 0
  · subst hr
    clear h0 h1 hR
    have HO := Lib.hid (of_lit B (p + 1) oddTexts 8 rfl (by omega) (by omega) W1 (by omega) hR1 _ rfl)
    simp only [oddTexts, List.map_cons, List.map_nil] at HO
    go_wp2_with fail
    refine HO.out.mono ?_
    rintro e W2 ⟨x, hx, rfl, hR2, hg2⟩
    go_wp2
    go_ret
    refine ⟨x, p + 1 + 1, rfl, ?_, by omega, hR2, grownBy_trans hg1 hg2⟩
    simp at hx
    rcases hx with rfl | rfl | rfl | rfl | rfl | rfl | rfl | rfl <;> decide
  · have hr' : (r == 0) = false := by simpa using hr
    have HP2 := Lib.hid (fun W hR => pick_c B (p + 1) 4 (by omega) (by omega) W (by omega) hR)
    have HP3 := Lib.hid (fun W hR => pick_c B (p + 1 + 1) 2 (by omega) (by omega) W (by omega) hR)
    clear h0 h1 hR hr
    go_wp2_with fail
    refine (HP2.out W1 hR1).mono ?_
    rintro e W2 ⟨a, rfl, a0, a1, hR2, hg2⟩
    go_wp2_with fail
    refine (HP3.out W2 hR2).mono ?_
    rintro e W3 ⟨b, rfl, b0, b1, hR3, hg3⟩
    have hg : W.grownBy W3 (some B) := grownBy_trans hg1 (grownBy_trans hg2 hg3)
    have hn : IntKind.i64.wrap (a * b) = a * b := by
      have hb : b = 0 ∨ b = 1 := by omega
      rcases hb with rfl | rfl
      · simp [IntKind.wrap_i64]
      · rw [Int.mul_one]; exact IntWalk.i64_in _ (by omega)
    have hab : 0 ≤ a * b ∧ a * b ≤ 3 := by
      have hb : b = 0 ∨ b = 1 := by omega
      rcases hb with rfl | rfl <;> omega
    obtain ⟨hab0, hab3⟩ := hab
    clear hg1 hg2 hg3 hR1 hR2 a0 a1 b0 b1 hr'
    go_wp2
    go_loopw [4, 5] (fun out i wr => PathRel B p (a * b) W out i wr) (fun _ i _ => (1 + a * b - intOf i).toNat)
    case atStart => exact ⟨0, ⟨#[]⟩, rfl, by omega, by omega, rfl, rfl, hR3, hg⟩
    case round =>
      obtain ⟨k, s, rfl, hk4, hkn, rfl, hs, hRk, hgk⟩ := hrel
      by_cases hlt : (k : Int) < 1 + a * b
      · have hk3 : k ≤ 3 := by omega
        have HO := Lib.hid (of_lit B (p + 3 + k) letterTexts 6 rfl (by omega) (by omega) wr (by omega) hRk _ rfl)
        simp only [letterTexts, List.map_cons, List.map_nil] at HO
        have HS := Lib.hid hs
        have hs8 : s.size ≤ 8 := by omega
        clear hs
        go_wp2_with fail
        refine HO.out.mono ?_
        rintro e W5 ⟨x, hx, rfl, hR5, hg5⟩
        have hx1 : x.size = 1 := by
          simp at hx
          rcases hx with rfl | rfl | rfl | rfl | rfl | rfl <;> rfl
        have HX := Lib.hid hx1
        have hx8 : x.size ≤ 1 := by omega
        clear hx hx1
        go_wp2
        refine ⟨⟨k + 1, s ++ ⟨#[47]⟩ ++ x, by go_num, by omega, by omega, rfl, ?_, hR5, grownBy_trans hgk hg5⟩, ?_⟩
        · rw [ByteArray.size_append, ByteArray.size_append, HS.out, HX.out]
          show 2 * k + 1 + 1 = _
          omega
        · simp [intOf]; omega
      · have hk : (1 : Int) + a * b ≤ k := by omega
        have HS := Lib.hid hs
        clear hs hlt
        go_wp2
        go_ret
        refine ⟨s, p + 3 + k, rfl, by have := HS.out; omega, by omega, hRk, hgk⟩

/-- What the walk is told of the code: it is nil; or it leads to a row of cells. -/
def IsRow (k : IntKind) (w : World) (a : Option Addr) (len cap : Nat) (zs : List Int) : Prop :=
  (a = none ∧ len = 0 ∧ cap = 0 ∧ zs = []) ∨
  ∃ x, a = some x ∧ len ≤ cap ∧ cap ≤ maxLen ∧ zs.length = cap ∧ (∀ i, i < zs.length → w.cell? (x.add i) = some (.int k (zs.getD i 0))) ∧ ∀ n ∈ zs, (Lit.int k n).wf = true

theorem u8_bounds {n : Int} (h : (Lit.int .u8 n).wf = true) : 0 ≤ n ∧ n ≤ 255 := by
  simpa [Lit.wf, IntKind.min, IntKind.max, IntKind.signed, IntKind.bits] using h

theorem addr_add (b off i : Nat) : (⟨b, off, none⟩ : Addr).add i = ⟨b, off + i, none⟩ := by
  unfold Addr.add; split <;> simp_all

/-- A new reader. -/
def OpenPost (W : World) (e : Ending) (W' : World) : Prop :=
  e = .returned (.pointer (some ⟨W.heap.size, 0, none⟩)) ∧ RdAt W' W.heap.size 0 ∧ Below W.heap.size W W'

theorem rd_new (W : World) (a : Option Addr) (len cap : Nat) (hl : len ≤ 2000) (hlc : len ≤ cap) (hcm : cap ≤ maxLen)
    (h : len = 0 ∨ ∃ (b off : Nat) (zs : List Int), a = some ⟨b, off, none⟩ ∧ zs.length = len ∧ (∀ i, i < len → W.cell? ⟨b, off + i, none⟩ = some (.int .u8 (zs.getD i 0))) ∧ ∀ i, i < len → 0 ≤ zs.getD i 0 ∧ zs.getD i 0 ≤ 255) (t : TypeId) :
    RdAt (W.alloc (.cells #[.slice a len cap, .int .i64 0] t)) W.heap.size 0 := by
  refine ⟨a, len, cap, ?_, ?_, ?_, hl, hlc, hcm, by omega, ?_⟩
  · rw [World.cell?_alloc_new]; rfl
  · rw [World.cell?_alloc_new]; rfl
  · have hnew := World.alloc_heap_new W (.cells #[.slice a len cap, .int .i64 0] t)
    simp only [World.frozen?, hnew]; rfl
  · by_cases hz : len = 0
    · exact .inl hz
    · rcases h with h0 | ⟨b, off, zs, ha, hzl, hc, hw⟩
      · exact .inl h0
      · have hb : b < W.heap.size := World.block_lt_of_cell? W _ (hc 0 (by omega))
        refine .inr ⟨b, off, zs, ha, by omega, hzl, fun i hi => ?_, hw⟩
        rw [World.cell?_alloc_lt W _ _ hb]
        exact hc i hi

set_option maxHeartbeats 1000000 in
theorem l6Open_c (a : Option Addr) (len cap : Nat) (zs : List Int) (W : World) (h : IsRow .u8 W a len cap zs) :
    Calls Try.prog 32 #[.slice a len cap] W (OpenPost W) := by
  rcases h with ⟨rfl, rfl, rfl, rfl⟩ | ⟨x, rfl, hlc, hcm, hz, hc, hw⟩
  · have HN := Lib.hid (rd_new W none 0 0 (by omega) (by omega) (by simp [maxLen]) (.inl rfl))
    go_enter Try.func32, Try.ntmps32
    go_wp2
    go_ret
    exact ⟨rfl, HN.out _, (Below.refl _ _).alloc (Nat.le_refl _) _⟩
  · have hspot : len = 0 ∨ ∃ b off, x = ⟨b, off, none⟩ := by
      by_cases h0 : len = 0
      · exact .inl h0
      · have := World.cell?_spot (hc 0 (by omega))
        obtain ⟨b, off, spot⟩ := x
        have hs : spot = none := by simpa [Addr.add] using this
        exact .inr ⟨b, off, by rw [hs]⟩
    have key : ∀ (m : Nat), m ≤ len → m ≤ 2000 → ∀ t, RdAt (W.alloc (.cells #[.slice (some x) m cap, .int .i64 0] t)) W.heap.size 0 := by
      intro m hm hm2 t
      refine rd_new W (some x) m cap hm2 (by omega) hcm ?_ t
      rcases hspot with h0 | ⟨b, off, rfl⟩
      · exact .inl (by omega)
      · refine .inr ⟨b, off, zs.take m, rfl, by rw [List.length_take]; omega, fun i hi => ?_, fun i hi => ?_⟩
        · have := hc i (by omega)
          rw [addr_add] at this
          rw [List.getD_eq_getElem?_getD, List.getElem?_take_of_lt hi, ← List.getD_eq_getElem?_getD]
          exact this
        · rw [List.getD_eq_getElem?_getD, List.getElem?_take_of_lt hi, ← List.getD_eq_getElem?_getD]
          have hi2 : i < zs.length := by omega
          refine u8_bounds (hw _ ?_)
          rw [List.getD_eq_getElem?_getD, List.getElem?_eq_getElem hi2]
          exact List.getElem_mem hi2
    have KEY := Lib.hid key
    clear key hspot hw hc hz
    unfold maxLen at hcm
    by_cases h2 : len ≤ 2000
    · have h2' : (len : Int) ≤ 2000 := by omega
      have HK := Lib.hid (KEY.out len (by omega) h2)
      clear h2
      go_enter Try.func32, Try.ntmps32
      go_wp2
      go_ret
      exact ⟨rfl, HK.out _, (Below.refl _ _).alloc (Nat.le_refl _) _⟩
    · have h2' : (2000 : Int) < len := by omega
      have h3' : (2000 : Int) ≤ cap := by omega
      have HK := Lib.hid (KEY.out 2000 (by omega) (by omega))
      clear h2
      go_enter Try.func32, Try.ntmps32
      go_wp2
      go_ret
      exact ⟨rfl, HK.out _, (Below.refl _ _).alloc (Nat.le_refl _) _⟩

/-- A drawn text. -/
def DrawPost (m : Nat) (W : World) (e : Ending) (W' : World) : Prop :=
  ∃ s : ByteArray, e = .returned (.string s) ∧ s.size ≤ m ∧ Below W.heap.size W W'

theorem below_of_reader {W W1 W2 : World} (hB : Below W.heap.size W W1) (hg : W1.grownBy W2 (some W.heap.size)) : Below W.heap.size W W2 :=
  hB.grown hg hB.size (fun k e => by cases e; exact Nat.le_refl _)

set_option maxHeartbeats 400000 in
theorem drawDepth_c (a : Option Addr) (len cap : Nat) (zs : List Int) (W : World) (h : IsRow .u8 W a len cap zs) :
    Calls Try.prog 16 #[.slice a len cap] W (DrawPost 64 W) := by
  have HO := Lib.hid (l6Open_c a len cap zs W h)
  have HL := Lib.hid (fun B p W hp hR => l91Path_c B p W hp hR)
  clear h
  go_enter Try.func16, Try.ntmps16
  go_wp2_with fail
  refine HO.out.mono ?_
  rintro e W1 ⟨rfl, hR, hB⟩
  go_wp2_with fail
  refine (HL.out _ _ _ (by omega) hR).mono ?_
  rintro e W2 ⟨s, q, rfl, hs, hq, hR2, hg⟩
  have HS := Lib.hid hs
  have HQ := Lib.hid hq
  clear hs hq
  go_wp2
  go_ret
  exact ⟨s, rfl, HS.out, below_of_reader hB hg⟩

set_option maxHeartbeats 400000 in
theorem drawParent_c (a : Option Addr) (len cap : Nat) (zs : List Int) (W : World) (h : IsRow .u8 W a len cap zs) :
    Calls Try.prog 20 #[.slice a len cap] W (DrawPost 64 W) := by
  have HO := Lib.hid (l6Open_c a len cap zs W h)
  have HL := Lib.hid (fun B p W hp hR => l91Path_c B p W hp hR)
  clear h
  go_enter Try.func20, Try.ntmps20
  go_wp2_with fail
  refine HO.out.mono ?_
  rintro e W1 ⟨rfl, hR, hB⟩
  go_wp2_with fail
  refine (HL.out _ _ _ (by omega) hR).mono ?_
  rintro e W2 ⟨s, q, rfl, hs, hq, hR2, hg⟩
  have HS := Lib.hid hs
  have HQ := Lib.hid hq
  clear hs hq
  go_wp2
  go_ret
  exact ⟨s, rfl, HS.out, below_of_reader hB hg⟩

set_option maxHeartbeats 400000 in
theorem drawValid_c (a : Option Addr) (len cap : Nat) (zs : List Int) (W : World) (h : IsRow .u8 W a len cap zs) :
    Calls Try.prog 30 #[.slice a len cap] W (DrawPost 64 W) := by
  have HO := Lib.hid (l6Open_c a len cap zs W h)
  have HL := Lib.hid (fun B p W hp hR => l91Path_c B p W hp hR)
  clear h
  go_enter Try.func30, Try.ntmps30
  go_wp2_with fail
  refine HO.out.mono ?_
  rintro e W1 ⟨rfl, hR, hB⟩
  go_wp2_with fail
  refine (HL.out _ _ _ (by omega) hR).mono ?_
  rintro e W2 ⟨s, q, rfl, hs, hq, hR2, hg⟩
  have HS := Lib.hid hs
  have HQ := Lib.hid hq
  clear hs hq
  go_wp2
  go_ret
  exact ⟨s, rfl, HS.out, below_of_reader hB hg⟩

/-- Two drawn texts. -/
def DrawPost2 (m : Nat) (W : World) (e : Ending) (W' : World) : Prop :=
  ∃ a b : ByteArray, e = .returned (.tuple #[.string a, .string b]) ∧ a.size ≤ m ∧ b.size ≤ m ∧ Below W.heap.size W W'

theorem l1pB_size (s : ByteArray) (m : Nat) (h : s.size ≤ m) (h1 : 1 ≤ m) : (l1pB s).size ≤ m := by
  unfold l1pB
  split
  · exact h1
  · exact Pm.extract_le _ _ _ h

theorem depth_pos_size (s : ByteArray) (h : 0 < Pm.depth s.data.toList) : 2 ≤ s.size := by
  obtain ⟨m, k1, _⟩ := Pm.last_facts s.data.toList (by omega)
  rw [Lib.size_eq]; omega

set_option maxHeartbeats 1000000 in
theorem drawUnder_c (a : Option Addr) (len cap : Nat) (zs : List Int) (W : World) (h : IsRow .u8 W a len cap zs) :
    Calls Try.prog 24 #[.slice a len cap] W (DrawPost2 64 W) := by
  have HO := Lib.hid (l6Open_c a len cap zs W h)
  have HL := Lib.hid (fun B p W hp hR => l91Path_c B p W hp hR)
  have HD := Lib.hid (fun s hs W => specDepth_c s hs W)
  have HP := Lib.hid (fun s hs h2 W => l1Parent_c s hs h2 W)
  have HK := Lib.hid (fun B p W hp hR => pick_c B p 2 (by omega) (by omega) W hp hR)
  clear h
  go_enter Try.func24, Try.ntmps24
  go_wp2_with fail
  refine HO.out.mono ?_
  rintro e W1 ⟨rfl, hR, hB⟩
  go_wp2_with fail
  refine (HL.out _ _ _ (by omega) hR).mono ?_
  rintro e W2 ⟨s, q, rfl, hs, hq, hR2, hg⟩
  have hB2 := below_of_reader hB hg
  have HS := Lib.hid hs
  have HQ := Lib.hid hq
  clear hs hq hR hg hB
  go_wp2_with fail
  refine (HK.out _ _ _ (by have := HQ.out; omega) hR2).mono ?_
  rintro e W3 ⟨r, rfl, r0, r1, hR3, hg3⟩
  have hB3 := below_of_reader hB2 hg3
  clear hR2 hB2 hg3
  have second : ∀ (K : ByteArray → World → Prop), (∀ (x : ByteArray) W4, x.size ≤ 64 → Below W.heap.size W W4 → K x W4) → ∀ W4, RdAt W4 W.heap.size (q + 1) → Below W.heap.size W W4 →
      Calls Try.prog 31 #[.pointer (some ⟨W.heap.size, 0, none⟩)] W4 fun e W' => ∃ x, e = .returned (.string x) ∧ K x W' := by
    intro K hK W4 hR4 hB4
    refine (HL.out _ _ _ (by have := HQ.out; omega) hR4).mono ?_
    rintro e W5 ⟨x, q', rfl, hx, _, _, hg5⟩
    exact ⟨x, rfl, hK x W5 hx (below_of_reader hB4 hg5)⟩
  have H2 := Lib.hid (second (fun x W' => x.size ≤ 64 ∧ Below W.heap.size W W') (fun x W4 a b => ⟨a, b⟩))
  clear second HL
  by_cases hr : r = 0
  · subst hr
    obtain ⟨d, hd⟩ : ∃ d, Pm.depth s.data.toList = d := ⟨_, rfl⟩
    have hdc := HD.out s (by have := HS.out; omega)
    rw [hd] at hdc
    have HD2 := Lib.hid hdc
    clear hdc r0 r1
    by_cases h0 : 0 < d
    · have h2 := depth_pos_size s (by rw [hd]; exact h0)
      have HP2 := Lib.hid (HP.out s (by have := HS.out; omega) h2)
      clear hd h2
      go_wp2_with fail
      refine (HD2.out _).mono ?_
      rintro e W4 ⟨rfl, hB4⟩
      have hB5 := hB3.trans (hB4.mono hB3.size)
      go_wp2_with fail
      refine (HP2.out _).mono ?_
      rintro e W5 ⟨rfl, rfl⟩
      go_wp2
      go_ret2
      exact ⟨l1pB s, s, rfl, l1pB_size s 64 HS.out (by omega), HS.out, hB5⟩
    · have h0' : d ≤ 0 := by omega
      clear hd h0
      go_wp2_with fail
      refine (HD2.out _).mono ?_
      rintro e W4 ⟨rfl, hB4⟩
      have hB5 := hB3.trans (hB4.mono hB3.size)
      have hR4 := hR3.kept (below_grown hB4)
      go_wp2_with fail
      refine (H2.out _ hR4 hB5).mono ?_
      rintro e W5 ⟨x, rfl, hx, hB6⟩
      have HX := Lib.hid hx
      clear hx
      go_wp2
      go_ret2
      exact ⟨s, x, rfl, HS.out, HX.out, hB6⟩
  · have hr' : (r == 0) = false := by simpa using hr
    clear r0 r1 hr
    go_wp2_with fail
    refine (H2.out _ hR3 hB3).mono ?_
    rintro e W5 ⟨x, rfl, hx, hB6⟩
    have HX := Lib.hid hx
    clear hx
    go_wp2
    go_ret2
    exact ⟨s, x, rfl, HS.out, HX.out, hB6⟩

end Go.Proofs.Ytlnjcikoeiffgaa
