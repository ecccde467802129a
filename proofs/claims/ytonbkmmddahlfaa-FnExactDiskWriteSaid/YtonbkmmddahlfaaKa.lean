/-
  THE HARNESS OF FILES: lists of files in memory that is handed in; szBlob.
-/
import Derived.Test.YtonbkmmddahlfaaJf
import Derived.Test.YtonbkmmddahlfaaFi
namespace Go.Proofs.Ytonbkmmddahlfaa
open Go.RowKit
set_option linter.unusedVariables false

theorem ka_first : (0 : Nat) ≤ 0 := Nat.le_refl 0

/-- A file in memory of whatever kind. -/
def RawAt (W : World) (b off : Nat) (x : Bl) : Prop :=
  ∃ a1 c1 a2 c2, W.cell? ⟨b, off, none⟩ = some (.int .i64 x.n) ∧ W.cell? ⟨b, off + 1, none⟩ = some (.slice a1 x.s.length c1) ∧ W.cell? ⟨b, off + 2, none⟩ = some (.slice a2 x.f.length c2) ∧ IntsAt W a1 x.s.length x.s ∧ IntsAt W a2 x.f.length x.f
theorem RawAt.keep {W W' : World} {b off : Nat} {x : Bl} (h : RawAt W b off x) (hb : Below W.heap.size W W') : RawAt W' b off x := by
  obtain ⟨a1, c1, a2, c2, h1, h2, h3, h4, h5⟩ := h
  exact ⟨a1, c1, a2, c2, cell_kept hb h1, cell_kept hb h2, cell_kept hb h3, h4.keep hb, h5.keep hb⟩
def RawsAt (W : World) (a : Option Addr) (len : Nat) (bs : List Bl) : Prop :=
  bs.length = len ∧ (len = 0 ∨ ∃ b off, a = some ⟨b, off, none⟩ ∧ ∀ i x, bs[i]? = some x → RawAt W b (off + i * 3) x)
theorem RawsAt.keep {W W' : World} {a : Option Addr} {len : Nat} {bs : List Bl} (h : RawsAt W a len bs) (hb : Below W.heap.size W W') : RawsAt W' a len bs := by
  obtain ⟨h1, h0 | ⟨b, off, ha, hc⟩⟩ := h
  · exact ⟨h1, .inl h0⟩
  · exact ⟨h1, .inr ⟨b, off, ha, fun i x hn => (hc i x hn).keep hb⟩⟩
theorem RawsAt.at {W : World} {a : Option Addr} {len : Nat} {bs : List Bl} (h : RawsAt W a len bs) {i : Nat} (hi : i < len) :
    ∃ b off x a1 c1 a2 c2, a = some ⟨b, off, none⟩ ∧ bs[i]? = some x ∧ W.cell? ⟨b, off + i * 3, none⟩ = some (.int .i64 x.n) ∧ W.cell? ⟨b, off + i * 3 + 1, none⟩ = some (.slice a1 x.s.length c1) ∧ W.cell? ⟨b, off + i * 3 + 2, none⟩ = some (.slice a2 x.f.length c2) ∧ IntsAt W a1 x.s.length x.s ∧ IntsAt W a2 x.f.length x.f := by
  obtain ⟨h1, h0 | ⟨b, off, ha, hc⟩⟩ := h
  · omega
  · obtain ⟨x, hx⟩ : ∃ x, bs[i]? = some x := ⟨_, List.getElem?_eq_getElem (by omega)⟩
    obtain ⟨a1, c1, a2, c2, h2⟩ := hc i x hx
    exact ⟨b, off, x, a1, c1, a2, c2, ha, hx, h2⟩

def SzPost (k : Nat) (l : Int) (w : World) (e : Ending) (w' : World) : Prop := (∃ z : Int, e = .returned (.int .i64 z) ∧ -1 ≤ z ∧ z ≤ 1048576 ∧ (0 ≤ z → z + k = l)) ∧ Below w.heap.size w w'

theorem szInts_c (a : Option Addr) (len cap : Nat) (l : Int) (h0 : 0 ≤ l) (h1 : l ≤ 1048576) (hm : len ≤ maxLen) (w : World) :
    Calls Try.prog 52 #[.slice a len cap, .int .i64 l] w (SzPost len l w) := by
  have hm' : len ≤ 9223372036854775807 := Nat.le_trans hm (by unfold maxLen; omega)
  obtain ⟨z, hz⟩ : ∃ z, l - (len : Int) = z := ⟨_, rfl⟩
  have hw : IntKind.i64.wrap (l - (len : Int)) = z := (IntWalk.i64_in _ (by omega)).trans hz
  have HZ := Lib.hid (show z + len = l ∧ z ≤ 1048576 by omega)
  by_cases hneg : z < 0
  · clear h0 h1 hm hm' hz
    go_enter Try.func52, Try.ntmps52
    go_wp2
    go_ret
    exact ⟨⟨-1, rfl, by omega, by omega, fun h => absurd h (by omega)⟩, Below.refl _ _⟩
  · have hpos : 0 ≤ z := by omega
    clear h0 h1 hm hm' hz hneg
    go_enter Try.func52, Try.ntmps52
    go_wp2
    go_ret
    exact ⟨⟨z, rfl, by omega, HZ.out.2, fun _ => HZ.out.1⟩, Below.refl _ _⟩

set_option maxHeartbeats 1000000 in
set_option maxRecDepth 100000 in
theorem szBlob_c (n : Int) (a1 a2 : Option Addr) (ls lf c1 c2 : Nat) (l : Int) (h0 : 0 ≤ l) (h1 : l ≤ 1048576) (m1 : ls ≤ maxLen) (m2 : lf ≤ maxLen) (w : World) :
    Calls Try.prog 30 #[.agg #[.int .i64 n, .slice a1 ls c1, .slice a2 lf c2], .int .i64 l] w (SzPost (ls + lf) l w) := by
  have hb := below_box w (.cells #[.int .i64 n, .slice a1 ls c1, .slice a2 lf c2] 47)
  have HB := Lib.hid hb
  have HX := Lib.hid (cell_three_newJ w (.int .i64 n) (.slice a1 ls c1) (.slice a2 lf c2) 47)
  have HS1 := Lib.hid (fun w => szInts_c a1 ls c1 l h0 h1 m1 w)
  have HS2 := Lib.hid (fun z w (z0 : 0 ≤ z) (z1 : z ≤ 1048576) => szInts_c a2 lf c2 z z0 z1 m2 w)
  clear h0 h1 m1 m2 hb
  go_enter Try.func30, Try.ntmps30
  go_wp2_with fail
  generalize w.alloc (.cells #[.int .i64 n, .slice a1 ls c1, .slice a2 lf c2] 47) = X at HX HB ⊢
  have x1 : X.cell? ⟨w.heap.size, 1, none⟩ = some (.slice a1 ls c1) := by have := HX.out 1 _ rfl; simpa [Addr.add] using this
  have x2 : X.cell? ⟨w.heap.size, 2, none⟩ = some (.slice a2 lf c2) := by have := HX.out 2 _ rfl; simpa [Addr.add] using this
  have HX2 := Lib.hid x2
  clear x2
  go_wp2_with fail
  refine (HS1.out _).mono ?_
  rintro e W2 ⟨⟨z, rfl, z0, z1, z2⟩, hb2⟩
  have HB2 := Lib.hid (below_next HB.out hb2)
  have x2 := cell_kept hb2 HX2.out
  clear hb2 x1
  by_cases hneg : z < 0
  · clear z0 z1 z2
    go_wp2
    go_ret
    exact ⟨⟨-1, rfl, by omega, by omega, fun h => absurd h (by omega)⟩, HB2.out⟩
  · have hpos : 0 ≤ z := by omega
    have HZ := Lib.hid (z2 hpos)
    have HC := Lib.hid (fun w => HS2.out z w hpos z1)
    clear z0 z1 z2 hneg
    go_wp2_with fail
    refine (HC.out _).mono ?_
    rintro e W3 ⟨⟨y, rfl, y0, y1, y2⟩, hb3⟩
    have HB3 := Lib.hid (below_next HB2.out hb3)
    clear hb3 x2
    by_cases hneg : y < 0
    · clear y0 y1 y2
      go_wp2
      go_ret
      exact ⟨⟨-1, rfl, by omega, by omega, fun h => absurd h (by omega)⟩, HB3.out⟩
    · have hpos2 : 0 ≤ y := by omega
      have HY := Lib.hid (And.intro (y2 hpos2) y1)
      clear y0 y1 y2 hneg
      go_wp2
      go_ret
      exact ⟨⟨y, rfl, by omega, HY.out.2, fun _ => by have h1 := HY.out.1; have h2 := HZ.out; push_cast; omega⟩, HB3.out⟩

def totB : List Bl → Nat
  | [] => 0
  | b :: bs => (b.s.length + b.f.length) + totB bs
theorem totB_append : ∀ (a b : List Bl), totB (a ++ b) = totB a + totB b
  | [], b => by simp [totB]
  | x :: a, b => by simp only [List.cons_append, totB]; rw [totB_append a b]; omega
theorem totB_mem : ∀ {bs : List Bl} {b : Bl}, b ∈ bs → b.s.length + b.f.length ≤ totB bs
  | [], _, h => by cases h
  | c :: bs, b, h => by
    simp only [totB]
    rcases List.mem_cons.1 h with rfl | h
    · omega
    · have := totB_mem h; omega
/-- Lists that are no longer than a number. -/
def UpTo (m : Nat) (bs : List Bl) : Prop := ∀ b ∈ bs, b.s.length ≤ m ∧ b.f.length ≤ m
def SzBs (len : Nat) (bs : List Bl) (w : World) (e : Ending) (w' : World) : Prop := (∃ z : Int, e = .returned (.int .i64 z) ∧ (0 ≤ z → len ≤ 1048576 ∧ UpTo 1048576 bs ∧ totB bs ≤ 1048576)) ∧ Below w.heap.size w w'
def SzBRel (len : Nat) (bs : List Bl) (w : World) (l i : Value) (wr : World) : Prop :=
  ∃ (n : Nat) (z : Int), i = .int .i64 n ∧ n ≤ len ∧ l = .int .i64 z ∧ Hid (0 ≤ z ∧ z + totB (bs.take n) + len = 1048576) ∧ Hid (Below w.heap.size w wr)

set_option maxHeartbeats 1000000 in
set_option maxRecDepth 100000 in
theorem szBlobS_c (a : Option Addr) (len cap : Nat) (bs : List Bl) (hlen : len ≤ maxLen) (hm : UpTo maxLen bs) (w : World) (hN : RawsAt w a len bs) :
    Calls Try.prog 9 #[.slice a len cap, .int .i64 1048576] w (SzBs len bs w) := by
  have HN := Lib.hid hN
  have HE := Lib.hid hN.1
  have HM := Lib.hid hm
  have hl : len ≤ 9223372036854775807 := Nat.le_trans hlen (by unfold maxLen; omega)
  have hw0 : IntKind.i64.wrap (1048576 - (len : Int)) = 1048576 - len := IntWalk.i64_in _ (by omega)
  clear hN hm hlen
  by_cases h : len ≤ 1048576
  · obtain ⟨z, hz⟩ : ∃ z, (1048576 : Int) - len = z := ⟨_, rfl⟩
    have hzp : 0 ≤ z := by omega
    have HZ := Lib.hid (show 0 ≤ z ∧ z + len = 1048576 by omega)
    have hw := hw0.trans hz
    have HL := Lib.hid h
    have hl2 : (len : Int) ≤ 1048576 := by omega
    clear hz hl h hw0
    go_enter Try.func9, Try.ntmps9
    go_wp2
    clear hzp hw
    go_loopw [1, 5] (fun l i wr => SzBRel len bs w l i wr) (fun _ i _ => len - (intOf i).toNat)
    case atStart => exact ⟨0, z, rfl, by omega, rfl, Lib.hid ⟨HZ.out.1, by have := HZ.out.2; simp [totB]; omega⟩, Below.refl _ _⟩
    case round =>
      obtain ⟨i, l, rfl, hi, rfl, HLL, HB⟩ := hrel
      by_cases hlt : i < len
      · obtain ⟨b, off, x, a1, c1, a2, c2, rfl, hx, e0, e1, e2, -, -⟩ := (HN.out.keep HB.out).at hlt
        have hlt' : (i : Int) < len := by omega
        have hmx := HM.out x (List.mem_of_getElem? hx)
        have HO := Lib.hid (fun w => szBlob_c x.n a1 a2 x.s.length x.f.length c1 c2 l HLL.out.1 (by have := HLL.out.2; have := HLL.out.1; omega) hmx.1 hmx.2 w)
        have HTT := Lib.hid (show totB (bs.take (i + 1)) = totB (bs.take i) + (x.s.length + x.f.length) by rw [List.take_add_one, hx, totB_append]; simp [totB])
        have HLT := Lib.hid hlt
        generalize x.n = xn at e0 HO
        generalize x.s.length = xs at e1 HO HTT
        generalize x.f.length = xf at e2 HO HTT
        clear hi hlt hx hmx
        go_wp2_with fail
        refine (HO.out _).mono ?_
        rintro e W2 ⟨⟨z2, rfl, hz0, hz1, hz2⟩, hb2⟩
        have HB2 := Lib.hid (below_next HB.out hb2)
        clear e0 e1 e2 hb2
        by_cases hneg : z2 < 0
        · clear hz0 hz1 hz2
          go_wp2
          go_ret
          exact ⟨⟨-1, rfl, fun h => absurd h (by omega)⟩, HB2.out⟩
        · have hpos : 0 ≤ z2 := by omega
          have HZ2 := Lib.hid (And.intro hpos (hz2 hpos))
          clear hz0 hz1 hz2 hneg
          go_wp2
          go_roundw
          case rel => exact ⟨i + 1, z2, by go_num, by have := HLT.out; omega, rfl, Lib.hid ⟨HZ2.out.1, by rw [HTT.out]; have h1 := HZ2.out.2; have h2 := HLL.out.2; push_cast at h1 ⊢; omega⟩, HB2⟩
          case measure => have := HLT.out; simp [intOf]; omega
      · have hge : (len : Int) ≤ i := by omega
        have htk : bs.take i = bs := List.take_of_length_le (by have := HE.out; omega)
        rw [htk] at HLL
        clear hi hlt htk
        go_wp2
        go_ret
        refine ⟨⟨l, rfl, fun _ => ⟨HL.out, fun b hb => ?_, by have h2 := HLL.out; omega⟩⟩, HB.out⟩
        have h1 := totB_mem hb
        have h2 := HLL.out
        omega
  · have hneg : (1048576 : Int) - len < 0 := by omega
    obtain ⟨z, hz⟩ : ∃ z, (1048576 : Int) - len = z := ⟨_, rfl⟩
    have hw := hw0.trans hz
    have hzn : z < 0 := by omega
    clear hl h hw0 hz hneg
    go_enter Try.func9, Try.ntmps9
    go_wp2
    go_ret
    exact ⟨⟨-1, rfl, fun h => absurd h (by omega)⟩, Below.refl _ _⟩

end Go.Proofs.Ytonbkmmddahlfaa
