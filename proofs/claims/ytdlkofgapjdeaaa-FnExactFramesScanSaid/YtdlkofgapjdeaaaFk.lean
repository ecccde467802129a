/-
  WALKS: laws.szIntS, szIntSS, heldIntSS: how much a list of lists holds; what a test wrote into it is there.
-/
import Derived.Test.YtdlkofgapjdeaaaFj
namespace Go.Proofs.Ytdlkofgapjdeaaa
open Go.RowKit
set_option linter.unusedVariables false

def total (bs : List (List Int)) : Nat := (bs.map List.length).sum
theorem total_append (a b : List (List Int)) : total (a ++ b) = total a + total b := by simp [total]
theorem total_one (z : List Int) : total [z] = z.length := by simp [total]
theorem total_cons (z : List Int) (bs : List (List Int)) : total (z :: bs) = z.length + total bs := by simp [total]
theorem total_take (bs : List (List Int)) (n : Nat) : total (bs.take n) ≤ total bs := by
  have := total_append (bs.take n) (bs.drop n)
  rw [List.take_append_drop] at this
  omega
theorem total_next {bs : List (List Int)} {n : Nat} {z : List Int} (h : bs[n]? = some z) : total (bs.take (n + 1)) = total (bs.take n) + z.length := by
  rw [takeT_next h, total_append, total_one]

/-- The numbers that a test writes into a table, from k on. -/
def markT : Nat → List (List Int) → List (List Int)
  | _, [] => []
  | k, b :: bs => markI k b.length :: markT (k + b.length) bs

theorem markT_len : ∀ (bs : List (List Int)) (k : Nat), (markT k bs).length = bs.length
  | [], _ => rfl
  | b :: bs, k => by simp [markT, markT_len bs]

theorem markT_get : ∀ (bs : List (List Int)) (k n : Nat) (z : List Int), bs[n]? = some z → (markT k bs)[n]? = some (markI (k + total (bs.take n)) z.length)
  | [], _, _, _, h => by simp at h
  | b :: bs, k, 0, z, h => by
    simp at h; subst h
    simp [markT, total]
  | b :: bs, k, n + 1, z, h => by
    have ih := markT_get bs (k + b.length) n z (by simpa using h)
    rw [List.take_succ_cons, total_cons, ← Nat.add_assoc]
    simpa [markT] using ih

theorem szIntS_c (a : Option Addr) (len cap : Nat) (l : Int) (h0 : 0 ≤ l) (h1 : l ≤ 1048576) (hm : len ≤ maxLen) (w : World) :
    Calls Try.prog 47 #[.slice a len cap, .int .i64 l] w fun e w' => (∃ z : Int, e = .returned (.int .i64 z) ∧ -1 ≤ z ∧ z ≤ 1048576 ∧ (0 ≤ z → z + len = l)) ∧ w' = w := by
  have hm' : len ≤ 9223372036854775807 := Nat.le_trans hm (by unfold maxLen; omega)
  obtain ⟨z, hz⟩ : ∃ z, l - (len : Int) = z := ⟨_, rfl⟩
  have hw : IntKind.i64.wrap (l - (len : Int)) = z := (IntWalk.i64_in _ (by omega)).trans hz
  have HZ := Lib.hid (show z + len = l ∧ z ≤ 1048576 by omega)
  by_cases hneg : z < 0
  · clear h0 h1 hm hm' hz
    go_enter Try.func47, Try.ntmps47
    go_wp2
    go_ret
    exact ⟨⟨-1, rfl, by omega, by omega, fun h => absurd h (by omega)⟩, rfl⟩
  · have hpos : 0 ≤ z := by omega
    clear h0 h1 hm hm' hz hneg
    go_enter Try.func47, Try.ntmps47
    go_wp2
    go_ret
    exact ⟨⟨z, rfl, by omega, HZ.out.2, fun _ => HZ.out.1⟩, rfl⟩

def SzTab (len : Nat) (bs : List (List Int)) (w : World) (e : Ending) (w' : World) : Prop := (∃ z : Int, e = .returned (.int .i64 z) ∧ (0 ≤ z → len ≤ 1048576 ∧ ShortT 1048576 bs ∧ total bs ≤ 1048576)) ∧ w' = w

def SzTRel (len : Nat) (bs : List (List Int)) (w : World) (l i : Value) (wr : World) : Prop :=
  ∃ (n : Nat) (z : Int), i = .int .i64 n ∧ n ≤ len ∧ l = .int .i64 z ∧ Hid (0 ≤ z ∧ z + total (bs.take n) ≤ 1048576) ∧ wr = w

theorem short_total : ∀ {bs : List (List Int)} {b : List Int}, b ∈ bs → b.length ≤ total bs
  | [], _, h => by cases h
  | c :: bs, b, h => by
    rw [total_cons]
    rcases List.mem_cons.1 h with rfl | h
    · omega
    · have := short_total h; omega

set_option maxHeartbeats 1000000 in
set_option maxRecDepth 100000 in
theorem szIntSS_c (a : Option Addr) (len cap : Nat) (bs : List (List Int)) (hlen : len ≤ maxLen) (hm : ShortT maxLen bs) (w : World) (hN : TabAt w a len bs) :
    Calls Try.prog 33 #[.slice a len cap, .int .i64 1048576] w (SzTab len bs w) := by
  have HN := Lib.hid hN
  have HE := Lib.hid hN.1
  have HM := Lib.hid hm
  have hl : len ≤ 9223372036854775807 := Nat.le_trans hlen (by unfold maxLen; omega)
  have hw0 : IntKind.i64.wrap (1048576 - (len : Int)) = 1048576 - len := IntWalk.i64_in _ (by omega)
  clear hN hm hlen
  by_cases h : len ≤ 1048576
  · obtain ⟨z, hz⟩ : ∃ z, (1048576 : Int) - len = z := ⟨_, rfl⟩
    have hzp : 0 ≤ z := by omega
    have HZ := Lib.hid (show 0 ≤ z ∧ z ≤ 1048576 by omega)
    have hw := hw0.trans hz
    have HL := Lib.hid h
    have hl2 : (len : Int) ≤ 1048576 := by omega
    clear hz hl h hw0
    go_enter Try.func33, Try.ntmps33
    go_wp2
    clear hzp hw
    go_loopw [1, 5] (fun l i wr => SzTRel len bs w l i wr) (fun _ i _ => len - (intOf i).toNat)
    case atStart => exact ⟨0, z, rfl, by omega, rfl, Lib.hid ⟨HZ.out.1, by have := HZ.out.2; simp [total]; omega⟩, rfl⟩
    case round =>
      obtain ⟨i, l, rfl, hi, rfl, HLL, rfl⟩ := hrel
      by_cases hlt : i < len
      · obtain ⟨b, off, n, ai, ci, rfl, hn, c0, hzi⟩ := HN.out.at hlt
        have hlt' : (i : Int) < len := by omega
        have HO := Lib.hid (szIntS_c ai n.length ci l HLL.out.1 (by have := HLL.out.2; omega) (HM.out n (List.mem_of_getElem? hn)) wr)
        have HNX := Lib.hid (total_next hn)
        have HLT := Lib.hid hlt
        clear hi hlt hn hzi
        go_wp2_with fail
        refine HO.out.mono ?_; rintro e W2 ⟨⟨z2, rfl, hz0, hz1, hz2⟩, rfl⟩
        by_cases hneg : z2 < 0
        · clear hz0 hz1 hz2
          go_wp2
          go_ret
          exact ⟨⟨-1, rfl, fun h => absurd h (by omega)⟩, rfl⟩
        · have hpos : 0 ≤ z2 := by omega
          have HZ2 := Lib.hid (And.intro hpos (hz2 hpos))
          clear hz0 hz1 hz2 hneg
          go_wp2
          go_roundw
          case rel =>
            refine ⟨i + 1, z2, by go_num, by have := HLT.out; omega, rfl, Lib.hid ⟨HZ2.out.1, ?_⟩, rfl⟩
            have h1 := HZ2.out.2
            have h2 := HLL.out.2
            have h3 := HNX.out
            omega
          case measure => have := HLT.out; simp [intOf]; omega
      · have hge : (len : Int) ≤ i := by omega
        have htk : bs.take i = bs := List.take_of_length_le (by have := HE.out; omega)
        rw [htk] at HLL
        clear hi hlt htk
        go_wp2
        go_ret
        exact ⟨⟨l, rfl, fun _ => ⟨HL.out, fun n hn => by have h1 := HLL.out; have h2 := short_total hn; omega, by have h1 := HLL.out; omega⟩⟩, rfl⟩
  · have hz : (1048576 : Int) - len < 0 := by omega
    obtain ⟨z, hz'⟩ : ∃ z, (1048576 : Int) - len = z := ⟨_, rfl⟩
    have hw := hw0.trans hz'
    rw [hz'] at hz
    clear hz' hl h hw0
    go_enter Try.func33, Try.ntmps33
    go_wp2
    go_ret
    exact ⟨⟨-1, rfl, fun h => absurd h (by omega)⟩, rfl⟩

def HeldTRel (k0 len : Nat) (bs : List (List Int)) (W : World) (kv i : Value) (wr : World) : Prop :=
  ∃ n : Nat, i = .int .i64 n ∧ kv = .int .i64 ((k0 + total (bs.take n) : Nat) : Int) ∧ n ≤ len ∧ wr = W

set_option maxHeartbeats 2000000 in
set_option maxRecDepth 100000 in
theorem heldIntSS_c (a : Option Addr) (len cap k0 : Nat) (bs : List (List Int)) (hl : len ≤ 2097152) (hs : ShortT 2097152 bs) (hk : k0 + total bs ≤ 1099511627776) (W : World) (hE : bs.length = len) (hN : TabAt W a len (markT k0 bs)) :
    Calls Try.prog 37 #[.slice a len cap, .int .i64 k0] W fun e W' => e = .returned (.int .i64 ((k0 + total bs : Nat) : Int)) ∧ W' = W := by
  have HN := Lib.hid hN
  have HE := Lib.hid hE
  have HS := Lib.hid hs
  have HK := Lib.hid hk
  have hl' : (len : Int) ≤ 2097152 := by omega
  clear hN hs hk hE
  go_enter Try.func37, Try.ntmps37
  go_wp2
  go_loopw [1, 5] (fun kv i wr => HeldTRel k0 len bs W kv i wr) (fun _ i _ => len - (intOf i).toNat)
  case atStart => exact ⟨0, rfl, by simp [total], by omega, rfl⟩
  case round =>
    obtain ⟨i, rfl, rfl, hi, rfl⟩ := hrel
    by_cases hlt : i < len
    · obtain ⟨z, hz⟩ : ∃ z, bs[i]? = some z := ⟨_, List.getElem?_eq_getElem (by have := HE.out; omega)⟩
      obtain ⟨b, off, n, ai, ci, rfl, hn, c0, hzi⟩ := HN.out.at hlt
      rw [markT_get bs k0 i z hz] at hn
      obtain rfl := Option.some.inj hn
      have hlt' : (i : Int) < len := by omega
      have hil : (i : Int) ≤ 2097152 := by omega
      have HLT := Lib.hid hlt
      obtain ⟨kk, hkk⟩ : ∃ kk : Nat, kk = k0 + total (bs.take i) := ⟨_, rfl⟩
      have HNX := Lib.hid (show k0 + total (bs.take (i + 1)) = kk + z.length by rw [total_next hz, hkk]; omega)
      have hkb : kk ≤ 1099511627776 := by have := total_take bs i; have := HK.out; omega
      rw [markI_len] at c0 hzi
      rw [← hkk] at hzi ⊢
      have HH := Lib.hid (heldIntS_c ai z.length ci kk (HS.out z (List.mem_of_getElem? hz)) hkb wr hzi)
      have hpos : (0 : Int) ≤ ((kk + z.length : Nat) : Int) := by omega
      clear hlt hi hz hkk hzi hkb hn
      go_wp2_with fail
      refine HH.out.mono ?_
      rintro e W2 ⟨rfl, rfl⟩
      go_wp2
      go_roundw
      case rel => exact ⟨i + 1, by go_num, by rw [HNX.out]; push_cast; rfl, by have := HLT.out; omega, rfl⟩
      case measure => have := HLT.out; simp [intOf]; omega
    · have hge : (len : Int) ≤ i := by omega
      have hie : i = len := by omega
      have htk : bs.take i = bs := List.take_of_length_le (by have := HE.out; omega)
      rw [htk]
      clear hi hlt htk
      go_wp2
      refine bodyPost_ret (v := .int .i64 ((k0 + total bs : Nat) : Int)) (by simp [results, Try.f37, go_sem]) rfl ⟨rfl, rfl⟩

end Go.Proofs.Ytdlkofgapjdeaaa
