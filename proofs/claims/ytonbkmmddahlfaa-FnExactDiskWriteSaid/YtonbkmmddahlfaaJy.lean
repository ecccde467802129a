/-
  LAWS OF CHAPTER 31: what their walks name.
-/
import Derived.Test.YtonbkmmddahlfaaJl
import Derived.Test.YtonbkmmddahlfaaJt
import Derived.Test.YtonbkmmddahlfaaJu
import Derived.Test.YtonbkmmddahlfaaJv
import Derived.Test.YtonbkmmddahlfaaJw
namespace Go.Proofs.Ytonbkmmddahlfaa
open Go.RowKit
set_option linter.unusedVariables false

theorem jy_first : (0 : Nat) ≤ 0 := Nat.le_refl 0

/-- Few small files. -/
def Fine (bs : List Bl) : Prop := bs.length ≤ 5 ∧ ∀ x ∈ bs, x.s.length ≤ 400 ∧ x.f.length ≤ 400
theorem fine_valid {bs : List Bl} (h : diskV bs = true) : Fine bs := by
  refine ⟨by have := valid_lenJ h; omega, fun x hx => ?_⟩
  have := ((blOk_iff _).1 (dvalid_low h x hx).2).2.2.2
  omega
theorem fine_nil : Fine [] := ⟨by simp, fun x hx => by cases hx⟩
theorem Fine.short {bs : List Bl} (h : Fine bs) : ShortB 2000000 bs := fun b hb => ⟨by have := h.2 b hb; omega, by have := h.2 b hb; omega⟩
theorem Fine.long {bs : List Bl} (h : Fine bs) : Long bs := fun b hb => ⟨by have := h.2 b hb; omega, by have := h.2 b hb; omega⟩
theorem fine_told {bs : List Bl} {r : Option (List Bl)} {b : Bool} {out : List Bl} (hv : ∀ o, r = some o → diskV o = true) (h : (b = true ∧ r = some out) ∨ (b = false ∧ r = none ∧ out = [])) : Fine out := by
  rcases h with ⟨-, h⟩ | ⟨-, -, rfl⟩
  · exact fine_valid (hv out h)
  · exact fine_nil
/-- Few small files in memory. -/
def Dk (W : World) (a : Option Addr) (len : Nat) (bs : List Bl) : Prop := BlobsAt W a len bs ∧ len ≤ 5 ∧ Fine bs
theorem Dk.keep {W W' : World} {a : Option Addr} {len : Nat} {bs : List Bl} (h : Dk W a len bs) (hb : Below W.heap.size W W') : Dk W' a len bs := ⟨h.1.keep hb, h.2⟩
theorem Dk.len {W : World} {a : Option Addr} {len : Nat} {bs : List Bl} (h : Dk W a len bs) : bs.length = len := h.1.1
def DkPost (r : Option (List Bl)) (W : World) (e : Ending) (w' : World) : Prop :=
  ∃ (a : Option Addr) (len c : Nat) (out : List Bl) (b : Bool), e = .returned (.tuple #[.slice a len c, .bool b]) ∧ ((b = true ∧ r = some out) ∨ (b = false ∧ r = none ∧ out = [])) ∧ Dk w' a len out ∧ (len ≤ c ∧ c ≤ maxLen ∧ (a = none → c = 0)) ∧ Below W.heap.size W w'
theorem DiskPost.dk {r : Option (List Bl)} (hv : ∀ o, r = some o → diskV o = true) {W W' : World} {e : Ending} (h : DiskPost r W e W') : DkPost r W e W' := by
  obtain ⟨a, c, out, b, rfl, hr, h1, h2, h3⟩ := h
  have hf := fine_told (bs := out) hv hr
  exact ⟨a, out.length, c, out, b, rfl, hr, ⟨h1, hf.1, hf⟩, h2, h3⟩
theorem told_same {α : Type} {r : Option (List α)} {out out' : List α} {b b' : Bool} (h : (b = true ∧ r = some out) ∨ (b = false ∧ r = none ∧ out = [])) (h' : (b' = true ∧ r = some out') ∨ (b' = false ∧ r = none ∧ out' = [])) : out' = out ∧ b' = b := by
  rcases h with ⟨rfl, h⟩ | ⟨rfl, h, rfl⟩ <;> rcases h' with ⟨rfl, h'⟩ | ⟨rfl, h', rfl⟩
  · rw [h] at h'; exact ⟨(Option.some.inj h').symm, rfl⟩
  · rw [h] at h'; cases h'
  · rw [h] at h'; cases h'
  · exact ⟨rfl, rfl⟩
theorem told_true {α : Type} {r : Option (List α)} {out : List α} (h : (true = true ∧ r = some out) ∨ (true = false ∧ r = none ∧ out = [])) : r = some out := by
  rcases h with ⟨-, h⟩ | ⟨h, -⟩
  · exact h
  · cases h
theorem told_some {α : Type} {r : Option (List α)} {out zs : List α} {b : Bool} (h : (b = true ∧ r = some out) ∨ (b = false ∧ r = none ∧ out = [])) (e : r = some zs) : b = true ∧ out = zs := by
  rcases h with ⟨rfl, h⟩ | ⟨-, h, -⟩
  · rw [e] at h; exact ⟨rfl, (Option.some.inj h).symm⟩
  · rw [e] at h; cases h

theorem write_v {bs : List Bl} {n : Int} {zs : List Int} (o : List Bl) (h : diskWrite bs n zs = some o) : diskV o = true := (write_told h).1
theorem sync_v {bs : List Bl} {n : Int} (o : List Bl) (h : diskSync bs n = some o) : diskV o = true := (sync_twice h).2
theorem rename_v {bs : List Bl} {n c : Int} (o : List Bl) (h : diskRename bs n c = some o) : diskV o = true := by
  obtain ⟨F, b, rfl, hF, hb, hc, rfl⟩ := rename_valid h
  exact valid_ofF (rename_good hF hb hc)
theorem crash_v {bs keep} (o : List Bl) (h : diskCrash bs keep = some o) : diskV o = true := (crash_told h).2.1

theorem iValid {W : World} {a : Option Addr} {len : Nat} (c : Nat) {bs : List Bl} (h : Dk W a len bs) : Calls Try.prog 12 #[.slice a len c] W (BoolPost (diskV bs) W) :=
  implDiskValid_c a len c bs (by have := h.2.1; omega) h.2.2.short W h.1
theorem sValid {W : World} {a : Option Addr} {len : Nat} (c : Nat) {bs : List Bl} (h : Dk W a len bs) : Calls Try.prog 10 #[.slice a len c] W (BoolPost (diskV bs) W) :=
  specDiskValid_c a len c bs (by have := h.2.1; omega) h.2.2.long W h.1
theorem iSync {W : World} {a : Option Addr} {len : Nat} (c : Nat) {bs : List Bl} (n : Int) (h : Dk W a len bs) : Calls Try.prog 25 #[.slice a len c, .int .i64 n] W (DkPost (diskSync bs n) W) :=
  (implDiskSync_c a len c bs n (by have := h.2.1; omega) h.2.2.short W h.1).mono fun _ _ p => p.post.dk sync_v
theorem sSync {W : World} {a : Option Addr} {len : Nat} (c : Nat) {bs : List Bl} (n : Int) (h : Dk W a len bs) : Calls Try.prog 24 #[.slice a len c, .int .i64 n] W (DkPost (diskSync bs n) W) :=
  (specDiskSync_c a len c bs n (by have := h.2.1; omega) h.2.2.long W h.1).mono fun _ _ p => p.dk sync_v
theorem iRename {W : World} {a : Option Addr} {len : Nat} (c : Nat) {bs : List Bl} (n m : Int) (h : Dk W a len bs) : Calls Try.prog 27 #[.slice a len c, .int .i64 n, .int .i64 m] W (DkPost (diskRename bs n m) W) :=
  (implDiskRename_c a len c bs n m (by have := h.2.1; omega) h.2.2.short W h.1).mono fun _ _ p => p.post.dk rename_v
theorem sRename {W : World} {a : Option Addr} {len : Nat} (c : Nat) {bs : List Bl} (n m : Int) (h : Dk W a len bs) : Calls Try.prog 26 #[.slice a len c, .int .i64 n, .int .i64 m] W (DkPost (diskRename bs n m) W) :=
  (specDiskRename_c a len c bs n m (by have := h.2.1; omega) h.2.2.long W h.1).mono fun _ _ p => p.dk rename_v
theorem iCrash {W : World} {a : Option Addr} {len : Nat} (c : Nat) {bs : List Bl} {ak : Option Addr} {lk : Nat} (ck : Nat) {keep : List Int} (hk : lk ≤ 2097152) (h : Dk W a len bs) (hK : IntsAt W ak lk keep) : Calls Try.prog 29 #[.slice a len c, .slice ak lk ck] W (DkPost (diskCrash bs keep) W) :=
  (implDiskCrash_c a len c bs ak lk ck keep (by have := h.2.1; omega) h.2.2.short hk W h.1 hK).mono fun _ _ p => p.post.dk crash_v
theorem sCrash {W : World} {a : Option Addr} {len : Nat} (c : Nat) {bs : List Bl} {ak : Option Addr} {lk : Nat} (ck : Nat) {keep : List Int} (hk : lk ≤ 2097152) (h : Dk W a len bs) (hK : IntsAt W ak lk keep) : Calls Try.prog 28 #[.slice a len c, .slice ak lk ck] W (DkPost (diskCrash bs keep) W) :=
  (specDiskCrash_c a len c bs ak lk ck keep (by have := h.2.1; omega) h.2.2.long hk W h.1 hK).mono fun _ _ p => p.dk crash_v
theorem iWrite {W : World} {a : Option Addr} {len : Nat} (c : Nat) {bs : List Bl} (n : Int) {ab : Option Addr} {lb cb : Nat} {zs : List Int} (hz : zs.length ≤ 2000000) (h : Dk W a len bs) (hB : LsAt W (.slice ab lb cb) zs) : Calls Try.prog 22 #[.slice a len c, .int .i64 n, .slice ab lb cb] W (DkPost (diskWrite bs n zs) W) :=
  (implDiskWrite_c a len c bs n ab lb cb zs (by have := h.2.1; omega) h.2.2.short hz W h.1 hB).mono fun _ _ p => p.post.dk write_v
theorem sWrite {W : World} {a : Option Addr} {len : Nat} (c : Nat) {bs : List Bl} (n : Int) {ab : Option Addr} {lb cb : Nat} {zs : List Int} (hz : zs.length ≤ 2000000) (h : Dk W a len bs) (hB : LsAt W (.slice ab lb cb) zs) : Calls Try.prog 20 #[.slice a len c, .int .i64 n, .slice ab lb cb] W (DkPost (diskWrite bs n zs) W) :=
  (specDiskWrite_c a len c bs n ab lb cb zs (by have := h.2.1; omega) h.2.2.long hz W h.1 hB).mono fun _ _ p => p.dk write_v
/-- What a read tells. -/
def RdPost (r : Option (List Int)) (W : World) (e : Ending) (w' : World) : Prop :=
  ∃ (a : Option Addr) (len c : Nat) (out : List Int) (b : Bool), e = .returned (.tuple #[.slice a len c, .bool b]) ∧ ((b = true ∧ r = some out) ∨ (b = false ∧ r = none ∧ out = [])) ∧ LsAt w' (.slice a len c) out ∧ out.length ≤ 400 ∧ Below W.heap.size W w'
theorem read_len {bs : List Bl} {n : Int} {zs : List Int} (h : diskRead bs n = some zs) : zs.length ≤ 400 := by
  unfold diskRead at h
  by_cases hv : diskV bs = true
  · rw [if_pos hv] at h
    cases hf : findB bs n with
    | none => rw [hf] at h; cases h
    | some b =>
      rw [hf] at h
      obtain rfl := Option.some.inj h
      have := ((blOk_iff _).1 (dvalid_low hv b (List.mem_of_find?_eq_some hf)).2).2.2.2
      unfold allB
      rw [List.length_append]; omega
  · rw [if_neg hv] at h; cases h
theorem iRead {W : World} {a : Option Addr} {len : Nat} (c : Nat) {bs : List Bl} (n : Int) (h : Dk W a len bs) : Calls Try.prog 15 #[.slice a len c, .int .i64 n] W (RdPost (diskRead bs n) W) := by
  refine (implDiskRead_c a len c bs n (by have := h.2.1; omega) h.2.2.short W h.1).mono ?_
  rintro e w ⟨sl, out, b, rfl, hr, ho, hb⟩
  obtain ⟨a2, c2, rfl, -⟩ := (ls_of_own ho).out
  refine ⟨a2, out.length, c2, out, b, rfl, hr, ls_of_own ho, ?_, hb⟩
  rcases hr with ⟨-, h⟩ | ⟨-, -, rfl⟩
  · exact read_len h
  · simp
theorem DrawnD.at {W W' : World} {sl : Value} {bs : List Bl} (h : DrawnD W W' sl bs) : ∃ a len c, sl = .slice a len c ∧ Dk W' a len bs ∧ (len ≤ c ∧ c ≤ maxLen ∧ (a = none → c = 0)) ∧ Below W.heap.size W W' := by
  obtain ⟨vs, hd, hl, hs, hb⟩ := h
  obtain ⟨a, c, rfl, hB, hc⟩ := hd.at
  exact ⟨a, bs.length, c, rfl, ⟨hB, by omega, by omega, fun x hx => by have := hs x hx; omega⟩, hc, hb⟩

end Go.Proofs.Ytonbkmmddahlfaa
