/-
  WALKS: laws.markIntSS: what a test writes into a table of the program's.
-/
import Derived.Test.YtdlkofgapjdeaaaFk
namespace Go.Proofs.Ytdlkofgapjdeaaa
open Go.RowKit
set_option linter.unusedVariables false

theorem markT_append : ∀ (a b : List (List Int)) (k : Nat), markT k (a ++ b) = markT k a ++ markT (k + total a) b
  | [], b, k => by simp [markT, total]
  | c :: a, b, k => by
    rw [List.cons_append, markT, markT, markT_append a b, total_cons, Nat.add_assoc]; rfl

theorem partT_set {bs : List (List Int)} {k n : Nat} {z : List Int} (h : bs[n]? = some z) :
    (markT k (bs.take n) ++ bs.drop n).set n (markI (k + total (bs.take n)) z.length) = markT k (bs.take (n + 1)) ++ bs.drop (n + 1) := by
  obtain ⟨h1, h2⟩ := List.getElem?_eq_some_iff.1 h
  have hl : (markT k (bs.take n)).length = n := by rw [markT_len, List.length_take]; omega
  rw [List.set_append_right _ _ (by omega), hl, Nat.sub_self, List.drop_eq_getElem_cons h1, List.set_cons_zero, takeT_next h, markT_append]
  simp [markT]

theorem partT_get {bs : List (List Int)} {k n : Nat} {z : List Int} (h : bs[n]? = some z) : (markT k (bs.take n) ++ bs.drop n)[n]? = some z := by
  obtain ⟨h1, h2⟩ := List.getElem?_eq_some_iff.1 h
  have hl : (markT k (bs.take n)).length = n := by rw [markT_len, List.length_take]; omega
  rw [List.getElem?_append_right (by omega), hl, Nat.sub_self, List.getElem?_drop, Nat.add_zero]; exact h

/-- Nothing changed but in the lists of a table. -/
def GrownT (W W' : World) (vs : List Value) : Prop :=
  W'.os = W.os ∧ W'.tape = W.tape ∧ W'.output = W.output ∧ W.heap.size ≤ W'.heap.size ∧ ∀ k, k < W.heap.size → (∀ u ∈ vs, u.ownBlock ≠ some k) → W'.heap[k]? = W.heap[k]?

theorem GrownT.refl (W : World) (vs : List Value) : GrownT W W vs := ⟨rfl, rfl, rfl, Nat.le_refl _, fun _ _ _ => rfl⟩

theorem GrownT.next {A B C : World} {vs : List Value} {v : Value} (h : GrownT A B vs) (hv : v ∈ vs) (k : B.grownBy C v.ownBlock) : GrownT A C vs :=
  ⟨k.os.trans h.1, k.tape.trans h.2.1, k.output.trans h.2.2.1, Nat.le_trans h.2.2.2.1 k.size, fun i hi hr => (k.block i (Nat.lt_of_lt_of_le hi h.2.2.2.1) (fun e => hr v hv e.symm)).trans (h.2.2.2.2 i hi hr)⟩

/-- One list of a table has changed. -/
theorem Inner.set {W W' : World} {base : Nat} {vs : List Value} {bs : List (List Int)} (h : Inner W base vs bs) {n : Nat} {v : Value} {z : List Int} (hv : vs[n]? = some v) (hg : W.grownBy W' v.ownBlock) (ho : W'.ownsRow base 3 1 v z.length (intsV z)) : Inner W' base vs (bs.set n z) := by
  obtain ⟨h1, h2, h3⟩ := h
  refine ⟨by rw [List.length_set]; exact h1, fun i z' v' hz hv' => ?_, h3⟩
  by_cases hin : i = n
  · subst hin
    obtain rfl : v = v' := Option.some.inj (hv.symm.trans hv')
    have hl := (List.getElem?_eq_some_iff.1 hz).1
    rw [List.length_set] at hl
    rw [List.getElem?_set_self hl] at hz
    obtain rfl := Option.some.inj hz
    exact ho
  · rw [List.getElem?_set_ne (fun e => hin e.symm)] at hz
    refine own_farT (h2 i z' v' hz hv') hg ?_
    obtain ⟨l1, e1⟩ := List.getElem?_eq_some_iff.1 hv
    obtain ⟨l2, e2⟩ := List.getElem?_eq_some_iff.1 hv'
    intro k a1 a2
    have hp := List.pairwise_iff_getElem.1 h3
    rcases Nat.lt_or_ge i n with hlt | hge
    · exact hp i n l2 l1 hlt k (by rw [e2]; exact a1) (by rw [e1]; exact a2)
    · exact hp n i l1 l2 (by omega) k (by rw [e1]; exact a2) (by rw [e2]; exact a1)

def MarkTRel (k0 len base : Nat) (sl : Value) (vs : List Value) (bs : List (List Int)) (W : World) (kv i : Value) (wr : World) : Prop :=
  ∃ n : Nat, i = .int .i64 n ∧ kv = .int .i64 ((k0 + total (bs.take n) : Nat) : Int) ∧ n ≤ len ∧ wr.ownsRow base 23 1 sl len vs ∧ Hid (Inner wr base vs (markT k0 (bs.take n) ++ bs.drop n)) ∧ Hid (GrownT W wr vs)

set_option maxHeartbeats 2000000 in
set_option maxRecDepth 100000 in
theorem markIntSS_c (sl : Value) (base len k0 : Nat) (vs : List Value) (bs : List (List Int)) (hl : len ≤ 2097152) (hs : ShortT 2097152 bs) (hk : k0 + total bs ≤ 1099511627776) (W : World) (hE : bs.length = len) (h : W.ownsRow base 23 1 sl len vs) (hI : Inner W base vs bs) :
    Calls Try.prog 36 #[sl, .int .i64 k0] W fun e W' => e = .returned (.int .i64 ((k0 + total bs : Nat) : Int)) ∧ GrownT W W' vs ∧ W'.ownsRow base 23 1 sl len vs ∧ Inner W' base vs (markT k0 bs) := by
  have HX := Lib.hid h
  have HI := Lib.hid hI
  have HE := Lib.hid hE
  have HS := Lib.hid hs
  have HK := Lib.hid hk
  obtain ⟨a, cap, hv⟩ : ∃ a cap, sl = .slice a len cap := by
    rcases own_casesI h with ⟨h1, h2⟩ | ⟨g, cap, h1⟩
    · exact ⟨none, 0, by rw [h1, h2]⟩
    · exact ⟨_, cap, h1⟩
  have hl' : (len : Int) ≤ 2097152 := by omega
  clear h hI hs hk hE
  subst hv
  go_enter Try.func36, Try.ntmps36
  go_wp2
  go_loopw [1, 5] (fun kv i wr => MarkTRel k0 len base (.slice a len cap) vs bs W kv i wr) (fun _ i _ => len - (intOf i).toNat)
  case atStart => exact ⟨0, rfl, by simp [total], by omega, HX.out, Lib.hid (by simpa [markT] using HI.out), GrownT.refl _ _⟩
  case round =>
    obtain ⟨i, rfl, rfl, hi, hown, HIN, HG⟩ := hrel
    by_cases hlt : i < len
    · obtain ⟨z, hz⟩ : ∃ z, bs[i]? = some z := ⟨_, List.getElem?_eq_getElem (by have := HE.out; omega)⟩
      have hlt' : (i : Int) < len := by omega
      have hil : (i : Int) ≤ 2097152 := by omega
      have HLT := Lib.hid hlt
      rcases own_casesI hown with ⟨_, h2⟩ | ⟨g, cap', h2⟩
      · omega
      simp at h2
      obtain ⟨rfl, rfl⟩ := h2
      have hvl : vs.length = len := by have := hown.1; omega
      obtain ⟨v, hv⟩ : ∃ v, vs[i]? = some v := ⟨_, List.getElem?_eq_getElem (by omega)⟩
      have hvo := HIN.out.2.1 i z v (partT_get hz) hv
      obtain ⟨ai, ci, rfl, -⟩ := ints_of_own hvo
      have c0 : wr.cell? ⟨g, i, none⟩ = some (.slice ai z.length ci) := by rw [hown.cellAt i (by omega)]; exact hv
      have HO := Lib.hid hown
      obtain ⟨kk, hkk⟩ : ∃ kk : Nat, kk = k0 + total (bs.take i) := ⟨_, rfl⟩
      have HNX := Lib.hid (show k0 + total (bs.take (i + 1)) = kk + z.length by rw [total_next hz, hkk]; omega)
      have HPS := Lib.hid (show (markT k0 (bs.take i) ++ bs.drop i).set i (markI kk z.length) = markT k0 (bs.take (i + 1)) ++ bs.drop (i + 1) by rw [hkk]; exact partT_set hz)
      have hkb : kk ≤ 1099511627776 := by have := total_take bs i; have := HK.out; omega
      have HM := Lib.hid (markIntS_c (.slice ai z.length ci) base z.length kk (intsV z) (HS.out z (List.mem_of_getElem? hz)) hkb wr hvo)
      have HV := Lib.hid (And.intro hv hvo)
      rw [← hkk]
      clear hlt hi hz hkk hkb hv hvo hown hvl
      go_wp2_with fail
      refine HM.out.mono ?_
      rintro e W2 ⟨rfl, hg2, ho2⟩
      have hto := own_farT HO.out hg2 (fun k e1 e2 => own_types HV.out.2 HO.out (by decide) k e2 e1)
      have hin : Hid (Inner W2 base vs (markT k0 (bs.take (i + 1)) ++ bs.drop (i + 1))) := by
        show Inner _ _ _ _
        rw [← HPS.out]
        exact HIN.out.set HV.out.1 hg2 (by rw [markI_len]; exact ho2)
      have hG2 := HG.out.next (List.mem_of_getElem? HV.out.1) hg2
      clear hg2 ho2
      go_wp2
      go_roundw
      case rel => exact ⟨i + 1, by go_num, by rw [HNX.out]; push_cast; rfl, by have := HLT.out; omega, hto, hin, hG2⟩
      case measure => have := HLT.out; simp [intOf]; omega
    · have hge : (len : Int) ≤ i := by omega
      have hie : i = len := by omega
      have htk : bs.take i = bs := List.take_of_length_le (by have := HE.out; omega)
      have hdr : bs.drop i = [] := List.drop_eq_nil_of_le (by have := HE.out; omega)
      rw [htk, hdr, List.append_nil] at HIN
      rw [htk]
      subst hie
      clear hi hlt htk hdr
      go_wp2
      refine bodyPost_ret (v := .int .i64 ((k0 + total bs : Nat) : Int)) (by simp [results, Try.f36, go_sem]) rfl ⟨rfl, HG.out, hown, HIN.out⟩

end Go.Proofs.Ytdlkofgapjdeaaa
