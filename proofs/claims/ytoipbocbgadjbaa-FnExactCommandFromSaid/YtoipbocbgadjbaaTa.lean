/-
  WALKS: lists of nodes in memory; spec.l3Get.
-/
import Derived.Test.YtoipbocbgadjbaaTp
import Derived.Test.YtoipbocbgadjbaaCd
namespace Go.Proofs.Ytoipbocbgadjbaa
open Go.RowKit
set_option linter.unusedVariables false

/-- A list of nodes in memory. -/
def NodesAt (W : World) (a : Option Addr) (len : Nat) (ns : List Nd) : Prop :=
  ns.length = len ∧ (len = 0 ∨ ∃ b off, a = some ⟨b, off, none⟩ ∧ ∀ i n, ns[i]? = some n →
    W.cell? ⟨b, off + i * 3, none⟩ = some (.string n.p) ∧ W.cell? ⟨b, off + i * 3 + 1, none⟩ = some (.int .i64 n.k) ∧ W.cell? ⟨b, off + i * 3 + 2, none⟩ = some (.int .i64 n.v))

theorem NodesAt.keep {W W' : World} {a : Option Addr} {len : Nat} {ns : List Nd} (h : NodesAt W a len ns) (hb : Below W.heap.size W W') : NodesAt W' a len ns := by
  obtain ⟨h1, h0 | ⟨b, off, ha, hc⟩⟩ := h
  · exact ⟨h1, .inl h0⟩
  · exact ⟨h1, .inr ⟨b, off, ha, fun i n hn => ⟨cell_kept hb (hc i n hn).1, cell_kept hb (hc i n hn).2.1, cell_kept hb (hc i n hn).2.2⟩⟩⟩

/-- The cells of a node at a place. -/
theorem NodesAt.node {W : World} {a : Option Addr} {len : Nat} {ns : List Nd} (h : NodesAt W a len ns) {i : Nat} (hi : i < len) :
    ∃ b off n, a = some ⟨b, off, none⟩ ∧ ns[i]? = some n ∧ W.cell? ⟨b, off + i * 3, none⟩ = some (.string n.p) ∧ W.cell? ⟨b, off + i * 3 + 1, none⟩ = some (.int .i64 n.k) ∧ W.cell? ⟨b, off + i * 3 + 2, none⟩ = some (.int .i64 n.v) := by
  obtain ⟨h1, h0 | ⟨b, off, ha, hc⟩⟩ := h
  · omega
  · obtain ⟨n, hn⟩ : ∃ n, ns[i]? = some n := ⟨_, List.getElem?_eq_getElem (by omega)⟩
    exact ⟨b, off, n, ha, hn, hc i n hn⟩

/-- The content of a result cell, wherever the cell's address stands. -/
theorem conS_results (s : Nat) (fn : Func) (hf : fn.results = #[.cell s 24]) (W : World) (n : Nat) (k v : Int) (tmps : Array Value) (ht : tmps[s]? = some (.pointer (some ⟨n, 0, none⟩)))
    (h : W.cell? ⟨n, 0, none⟩ = some (.int .i64 k) ∧ W.cell? ⟨n, 1, none⟩ = some (.int .i64 v)) : (results fn tmps).run Try.prog W = .ok (con k v) W := by
  obtain ⟨c0, c1⟩ := h
  simp [results, hf, go_sem, ht, c0, c1]

theorem conS_at (s : Nat) (fn : Func) (hf : fn.results = #[.cell s 24]) {W W' : World} {k v : Int} {c : Int × Int} (hc : c = (k, v)) {tmps : Array Value} (n : Nat) (h : W'.cell? ⟨n, 0, none⟩ = some (.int .i64 k) ∧ W'.cell? ⟨n, 1, none⟩ = some (.int .i64 v))
    (hB : Below W.heap.size W W') (ht : tmps[s]? = some (.pointer (some ⟨n, 0, none⟩))) : bodyPost Try.prog fn (ConRet c.1 c.2 W) .ret ⟨tmps, []⟩ W' := by
  subst hc
  exact bodyPost_ret (conS_results s fn hf _ n k v _ ht h) rfl ⟨rfl, hB⟩

/-- .. and when the cell is written last. -/
theorem conS_set (s : Nat) (fn : Func) (hf : fn.results = #[.cell s 24]) {W W' : World} {a b : Value} {k v : Int} {c : Int × Int} (hc : c = (k, v)) {tmps : Array Value} (hT : Two W' W.heap.size a b) (hB : Below W.heap.size W W') (ht : tmps[s]? = some (.pointer (some ⟨W.heap.size, 0, none⟩))) :
    bodyPost Try.prog fn (ConRet c.1 c.2 W) .ret ⟨tmps, []⟩ ((W'.setCell ⟨W.heap.size, 0, none⟩ (.int .i64 k)).setCell ⟨W.heap.size, 1, none⟩ (.int .i64 v)) :=
  conS_at s fn hf hc W.heap.size (let h2 := (hT.set0 (c := .int .i64 k)).set1 (c := .int .i64 v); ⟨h2.1, h2.2.1⟩) (below_setCell (below_setCell hB _ _ (Nat.le_refl _)) _ _ (Nat.le_refl _)) ht

theorem getT_find {ns : List Nd} {p : ByteArray} (hr : p ≠ ⟨#[47]⟩) {i : Nat} {n : Nd} (hn : ns[i]? = some n) (hp : n.p = p) (hm : ∀ j m, j < i → ns[j]? = some m → m.p ≠ p) : getT ns p = (n.k, n.v) := by
  unfold getT getL look
  rw [if_neg hr]
  have : ns.find? (fun n => decide (n.p = p)) = some n := by
    rw [List.find?_eq_some_iff_getElem]
    obtain ⟨h1, h2⟩ := List.getElem?_eq_some_iff.1 hn
    refine ⟨by simpa using hp, i, h1, h2, fun j hj => ?_⟩
    simpa using hm j _ hj (List.getElem?_eq_getElem (by omega))
  rw [this]

theorem getT_miss {ns : List Nd} {p : ByteArray} (hr : p ≠ ⟨#[47]⟩) (hm : ∀ j m, j < ns.length → ns[j]? = some m → m.p ≠ p) : getT ns p = (0, 0) := by
  unfold getT getL
  rw [if_neg hr, look_none.2 (fun n hn => by
    obtain ⟨i, hi⟩ := List.getElem?_of_mem hn
    exact hm i n (List.getElem?_eq_some_iff.1 hi).1 hi)]

def GetRel (ns : List Nd) (p : ByteArray) (i : Value) : Prop := ∃ n : Nat, i = .int .i64 n ∧ n ≤ ns.length ∧ Hid (∀ j m, j < n → ns[j]? = some m → m.p ≠ p)

set_option maxHeartbeats 1000000 in
theorem l3Get_c (a : Option Addr) (len cap : Nat) (ns : List Nd) (p : ByteArray) (hl : len ≤ 2097152) (W : World) (hN : NodesAt W a len ns) :
    Calls Try.prog 56 #[.slice a len cap, .string p] W (ConRet (getT ns p).1 (getT ns p).2 W) := by
  by_cases hr : p = ⟨#[47]⟩
  · subst hr
    go_enter Try.func56, Try.ntmps56
    go_wp2
    exact conS_at 4 _ rfl rfl W.heap.size ⟨by rw [World.cell?_alloc_new]; rfl, by rw [World.cell?_alloc_new]; rfl⟩ (below_box _ _) rfl
  · have hne : (p.toList == [47]) = false := by
      rw [beq_eq_false_iff_ne, Lib.toList_data]
      exact fun e => hr (by rw [← Lib.mk_data p, e])
    have HR := Lib.hid hr
    have HN := Lib.hid hN
    have hlen := hN.1
    have HE := Lib.hid hlen
    clear hr hN hlen
    go_enter Try.func56, Try.ntmps56
    go_wp2
    clear hne
    go_loop [5] (fun i => GetRel ns p i) (fun i => len - (intOf i).toNat)
    case atStart => exact ⟨0, rfl, by omega, Lib.hid (fun j m h _ => absurd h (by omega))⟩
    case round =>
      obtain ⟨i, rfl, hi, HM⟩ := hrel
      by_cases hlt : i < len
      · obtain ⟨b, off, n, rfl, hn, c0, c1, c2⟩ := (HN.out.keep (below_box W (.cells #[.int .i64 0, .int .i64 0] 24))).node hlt
        have hlt' : (i : Int) < len := by omega
        have HI := Lib.hid hn
        by_cases hp : n.p = p
        · have HG := Lib.hid (getT_find HR.out hn hp HM.out)
          have hpp : (n.p.toList == p.toList) = true := by rw [hp]; simp
          clear hi hlt hn hp
          go_wp2
          exact conS_at 4 _ rfl HG.out W.heap.size ⟨by rw [World.cell?_alloc_new]; rfl, by rw [World.cell?_alloc_new]; rfl⟩ (below_box _ _) rfl
        · have hpp : (n.p.toList == p.toList) = false := by
            rw [beq_eq_false_iff_ne, Lib.toList_data, Lib.toList_data]
            exact fun e => hp (by rw [← Lib.mk_data n.p, ← Lib.mk_data p, e])
          have HP := Lib.hid hp
          have HL := Lib.hid hlt
          clear hi hlt hn hp
          go_wp2
          go_round
          case rel =>
            refine ⟨i + 1, by go_num, by have := HL.out; have := HE.out; omega, ?_⟩
            intro j m hj hm
            by_cases hji : j < i
            · exact HM.out j m hji hm
            · have : j = i := by omega
              subst this
              rw [HI.out] at hm
              obtain rfl := Option.some.inj hm
              exact HP.out
          case measure => have := HL.out; simp [intOf]; omega
      · have hge : (len : Int) ≤ i := by omega
        have HG := Lib.hid (getT_miss HR.out (fun j m hj hm => HM.out j m (by have := HE.out; omega) hm))
        clear hi hlt
        go_wp2
        exact conS_at 4 _ rfl HG.out W.heap.size ⟨by rw [World.cell?_alloc_new]; rfl, by rw [World.cell?_alloc_new]; rfl⟩ (below_box _ _) rfl

end Go.Proofs.Ytoipbocbgadjbaa
