/-
  WALKS: slices.Grow and slices.Concat of lists of nodes, empty ones and nil too.
-/
import Derived.Lib.AppendZerosOnto
import Derived.Lib.Walk
import Derived.Test.YtnboodcllmdjeaaGreatTl
namespace Go.Proofs.YtnboodcllmdjeaaGreat
open Go.RowKit
set_option linter.unusedVariables false

set_option maxHeartbeats 1000000 in
set_option maxRecDepth 100000 in
/-- slices.Grow of nothing: room for n nodes. -/
theorem growNd_c (n : Nat) (hn : n ≤ 2097152) (W : World) :
    Calls Tryz.prog 61 #[.slice none 0 0, .int .i64 n] W fun e W' => OwnsNodes W.heap.size [] e W' ∧ Below W.heap.size W W' := by
  by_cases h0 : n = 0
  · subst h0
    go_enter Tryz.func61, Tryz.ntmps61
    go_wp2
    refine bodyPost_ret (v := .slice none 0 0) (by simp [results, Tryz.f61, go_sem]) rfl ⟨⟨_, rfl, World.ownsRow_nil _ _ _ _⟩, Below.refl _ _⟩
  · have h1 : 1 ≤ n := by omega
    obtain ⟨i0, hi, hz0, hz1, hz2⟩ := info_parts infoNode
    have hold : (Builtin.firstCells i0.size 0 (.slice none 0 0)).run Tryz.prog W.drew = .ok (([] : List Value)).toArray W.drew := run_firstCells_none W.drew i0.size 0 0 0
    have hrz : ∀ ty, (Builtin.append_ #[23, 3] ty #[.slice none 0 0, .int .i64 n]).run Tryz.prog W =
        .ok (.slice (some ⟨W.heap.size, 0, none⟩) (0 + n) (grownCap W (0 + n) 0 56)) (W.drew.alloc (.cells (([] : List Value).toArray ++ Builtin.zeroCells (Value.agg #[.string ⟨#[]⟩, .int .i64 0, .int .i64 0]).cells n ++ Builtin.zeroCells (Value.agg #[.string ⟨#[]⟩, .int .i64 0, .int .i64 0]).cells (grownCap W (0 + n) 0 56 - (0 + n))) 56)) := fun ty =>
      Lib.run_append_grow_zeros W 23 3 ty 56 i0 (.agg #[.string ⟨#[]⟩, .int .i64 0, .int .i64 0]) .i64 .i64 Tryz.underlying23 Tryz.underlying3 hi hz0 none 0 0 [] hold n (by omega) (by omega) (by omega) (by omega) (by rw [hz2]; omega) (growslice_fits (by omega) (by rw [hz2]; omega))
    have hGn : 0 + n ≤ grownCap W (0 + n) 0 56 := grownCap_ge W _ _ _
    have hGm : grownCap W (0 + n) 0 56 ≤ maxLen := grownCap_le_maxLen W (0 + n) 0 56 (by unfold maxLen; omega)
    rw [Nat.zero_add] at hrz hGn hGm
    obtain ⟨G, hG⟩ : ∃ G, G = grownCap W n 0 56 := ⟨_, rfl⟩
    rw [← hG] at hrz hGn hGm
    have HGN := Lib.hid hGn
    have HGM := Lib.hid hGm
    have n0 : 0 < (n : Int) := by omega
    have hn' : (n : Int) ≤ 2097152 := by omega
    have hG63 : G ≤ 9223372036854775807 := by unfold maxLen at hGm; omega
    clear hold hG hGn hGm
    go_enter Tryz.func61, Tryz.ntmps61
    go_wp2_with (at_builtin; refine Lib.wpList_append_run _ rfl _ _ _ _ rfl _ _ rfl rfl _ _ (hrz _) ?_)
    refine bodyPost_ret (v := .slice (some ⟨W.heap.size, 0, none⟩) 0 G) (by simp [results, Tryz.f61, go_sem]) rfl ⟨⟨_, rfl, ?_⟩, ((Below.refl _ W).alloc (Nat.le_refl _) _).drew⟩
    exact World.ownsRow_made (e := 56) (size := 3) W _ G (Nat.le_refl _) HGM.out (by
      rw [Array.size_append, size_zeroCells, size_zeroCells]
      have := HGN.out
      simp
      omega)

/-- A list of nodes among the arguments of slices.Concat. -/
structure NRow where
  a : Option Addr
  len : Nat
  cap : Nat
  ns : List Nd

/-- A slice of lists of nodes in memory. -/
def RowsAt (W : World) (g off : Nat) (rows : List NRow) : Prop := ∀ i r, rows[i]? = some r → W.cell? ⟨g, off + i, none⟩ = some (.slice r.a r.len r.cap) ∧ NodesAt W r.a r.len r.ns

theorem RowsAt.keep {W W' : World} {g off : Nat} {rows : List NRow} (h : RowsAt W g off rows) (hb : Below W.heap.size W W') : RowsAt W' g off rows := fun i r hr =>
  ⟨cell_kept hb (h i r hr).1, (h i r hr).2.keep hb⟩

def allN (rows : List NRow) : List Nd := rows.flatMap NRow.ns

theorem allN_next {rows : List NRow} {i : Nat} {r : NRow} (h : rows[i]? = some r) : allN (rows.take (i + 1)) = allN (rows.take i) ++ r.ns := by
  unfold allN
  rw [List.take_add_one, h, List.flatMap_append]
  simp

theorem allN_le (rows : List NRow) (i : Nat) : (allN (rows.take i)).length ≤ (allN rows).length := by
  conv => rhs; rw [← List.take_append_drop i rows]
  unfold allN
  rw [List.flatMap_append, List.length_append]
  omega

theorem flatN_cell1 (ns : List Nd) : ∀ u ∈ flatN ns, u.oneCell' = true := by
  intro u hu
  unfold flatN at hu
  obtain ⟨n, _, hn⟩ := List.mem_flatMap.1 hu
  simp at hn
  rcases hn with rfl | rfl | rfl <;> rfl

theorem addr_addN (b off j : Nat) : ((⟨b, off, none⟩ : Addr).add j) = ⟨b, off + j, none⟩ := by
  unfold Addr.add
  split
  · rename_i h; rw [h]; rfl
  · rfl

theorem flatN_at : ∀ (ns : List Nd) (j : Nat) (u : Value), (flatN ns)[j]? = some u → ∃ i n, ns[i]? = some n ∧ ((j = i * 3 ∧ u = .string n.p) ∨ (j = i * 3 + 1 ∧ u = .int .i64 n.k) ∨ (j = i * 3 + 2 ∧ u = .int .i64 n.v))
  | [], j, u, h => by simp [flatN] at h
  | m :: r, 0, u, h => ⟨0, m, rfl, .inl ⟨rfl, by simpa [flatN] using h.symm⟩⟩
  | m :: r, 1, u, h => ⟨0, m, rfl, .inr (.inl ⟨rfl, by simpa [flatN] using h.symm⟩)⟩
  | m :: r, 2, u, h => ⟨0, m, rfl, .inr (.inr ⟨rfl, by simpa [flatN] using h.symm⟩)⟩
  | m :: r, j + 3, u, h => by
    obtain ⟨i, n, h1, h2⟩ := flatN_at r j u (by simpa [flatN] using h)
    refine ⟨i + 1, n, by simpa using h1, ?_⟩
    rcases h2 with ⟨rfl, e⟩ | ⟨rfl, e⟩ | ⟨rfl, e⟩
    · exact .inl ⟨by omega, e⟩
    · exact .inr (.inl ⟨by omega, e⟩)
    · exact .inr (.inr ⟨by omega, e⟩)

theorem nodes_cells {W : World} {ad : Addr} {len : Nat} {ns : List Nd} (h : NodesAt W (some ad) len ns) : ∀ j u, (flatN ns)[j]? = some u → W.cell? (ad.add j) = some u := by
  intro j u hj
  obtain ⟨i, n, hn, hc⟩ := flatN_at ns j u hj
  obtain ⟨h1, h0 | ⟨b, off, ha, hh⟩⟩ := h
  · have := (List.getElem?_eq_some_iff.1 hn).1; omega
  · cases ha
    rw [addr_addN]
    obtain ⟨c0, c1, c2⟩ := hh i n hn
    rcases hc with ⟨rfl, rfl⟩ | ⟨rfl, rfl⟩ | ⟨rfl, rfl⟩
    · exact c0
    · exact c1
    · exact c2

theorem run_append_owned_nil {W : World} (base : Nat) (ty : TypeId) (i : TypeInfo) (hi : Tryz.prog.info? 56 = some i) (v : Value) (n : Nat) (xs : List Value) (hown : W.ownsRow base 56 3 v n xs) (cap : Nat) :
    (Builtin.append_ #[23, 23] ty #[v, .slice none 0 cap]).run Tryz.prog W = .ok v W := by
  have ht := Tryz.underlying23
  rcases hown.2 with ⟨rfl, rfl⟩ | ⟨g, cap', cur, rfl, _, _, hnc, _⟩
  · simp [Builtin.append_, run_underlying ht, sizeOf, typeInfo, hi, Builtin.lenOf, Builtin.firstCells]
  · simp [Builtin.append_, run_underlying ht, sizeOf, typeInfo, hi, Builtin.lenOf, Builtin.firstCells, hnc, storeCells]

theorem wpList_append_nodes {w : World} {ops : Array Oper} {rest : List Oper} {o : Oper} {a : Act} {Q : Exit → Act → World → Prop} (hgd : o.guard = none) (s x : Operand)
    (ho : o.op = .call { callee := .builtin .append, args := #[s, x], argTypes := #[23, 23] })
    (base : Nat) (v : Value) (acc : List Nd) (hs : a.eval s = v) (hown : w.ownsRow base 56 3 v acc.length (flatN acc))
    (ad : Option Addr) (len cap : Nat) (zs : List Nd) (hx : a.eval x = .slice ad len cap) (hi : NodesAt w ad len zs) (hlen : acc.length + zs.length ≤ 2097152) (hb : base ≤ w.heap.size)
    (h : ∀ v3 w3, w3.ownsRow base 56 3 v3 (acc ++ zs).length (flatN (acc ++ zs)) → w.grownBy w3 v.ownBlock → wpList Tryz.prog ops Q rest (a.put o.dst v3) w3) : wpList Tryz.prog ops Q (o :: rest) a w := by
  obtain ⟨i0, hi0, hz0, hz1, hz2⟩ := info_parts infoNode
  have hl := hi.1
  refine wpList_plain hgd fun K hK => ?_
  match ad, hx, hi with
  | none, hx, hi =>
    have h0 : len = 0 := by
      obtain ⟨_, h0 | ⟨b, off, ha, _⟩⟩ := hi
      · exact h0
      · cases ha
    have hz : zs = [] := List.length_eq_zero_iff.1 (by omega)
    subst hz; subst h0
    have hrun := run_append_owned_nil (W := w) base o.type i0 hi0 v acc.length (flatN acc) hown cap
    unfold Oper.wp
    simp [execOp, ho, resolve, invoke, builtin, hs, hx, hrun, Result.andThen]
    exact hK _ _ (h v w (by rw [List.append_nil]; exact hown) ⟨rfl, rfl, rfl, Nat.le_refl _, fun _ _ _ => rfl⟩)
  | some ad, hx, hi =>
    exact wp_append_own w s x 23 ho base 56 i0 (.agg #[.string ⟨#[]⟩, .int .i64 0, .int .i64 0]) 3 32 Tryz.underlying23 hi0 hz0 hz1 hz2 rfl (by decide) v acc.length (flatN acc) hs hown ad len cap (flatN zs) hx (by rw [flatN_length]; omega) (nodes_cells hi) (flatN_cell1 _) (by unfold maxLen; omega) (by omega) hb fun v' w' h1 h2 _ => hK _ _ (h v' w' (by rw [flatN_append, List.length_append, hl]; exact h1) h2)

def SizeN (rows : List NRow) (W : World) (s i : Value) (wr : World) : Prop :=
  ∃ n : Nat, i = .int .i64 n ∧ n ≤ rows.length ∧ s = .int .i64 ((allN (rows.take n)).length : Nat) ∧ W = wr

def JoinN (rows : List NRow) (W : World) (o i : Value) (wr : World) : Prop :=
  ∃ n : Nat, i = .int .i64 n ∧ n ≤ rows.length ∧ wr.ownsRow W.heap.size 56 3 o (allN (rows.take n)).length (flatN (allN (rows.take n))) ∧ Hid (Below W.heap.size W wr)

set_option maxHeartbeats 2000000 in
set_option maxRecDepth 100000 in
/-- slices.Concat of lists of nodes. -/
theorem concatN_c (g off cap : Nat) (rows : List NRow) (hl : rows.length ≤ 2097152) (ht : (allN rows).length ≤ 2097152) (W : World) (hN : RowsAt W g off rows) :
    Calls Tryz.prog 38 #[.slice (some ⟨g, off, none⟩) rows.length cap] W fun e W' => OwnsNodes W.heap.size (allN rows) e W' ∧ Below W.heap.size W W' := by
  have HN := Lib.hid hN
  have HT := Lib.hid ht
  obtain ⟨tot, htot⟩ : ∃ tot, tot = (allN rows).length := ⟨_, rfl⟩
  have HG := Lib.hid (fun W' => show Calls Tryz.prog 61 #[.slice none 0 0, .int .i64 tot] W' (fun e W'' => OwnsNodes W'.heap.size [] e W'' ∧ Below W'.heap.size W' W'') from growNd_c tot (by omega) W')
  have HTO := Lib.hid htot
  obtain ⟨len, hlen⟩ : ∃ len, len = rows.length := ⟨_, rfl⟩
  rw [← hlen] at hl ⊢
  have HE := Lib.hid hlen
  have hl' : (len : Int) ≤ 2097152 := by omega
  clear hN ht htot hlen
  go_enter Tryz.func38, Tryz.ntmps38
  go_wp2_with fail
  go_loopw [3, 11] (fun s i wr => SizeN rows W s i wr) (fun _ i _ => len - (intOf i).toNat)
  case atStart => exact ⟨0, rfl, by omega, rfl, rfl⟩
  case round =>
    obtain ⟨i, rfl, hi1, rfl, rfl⟩ := hrel
    by_cases hlt : i < len
    · obtain ⟨r, hr⟩ : ∃ r, rows[i]? = some r := ⟨_, List.getElem?_eq_getElem (by have := HE.out; omega)⟩
      obtain ⟨c0, hzi⟩ := HN.out i r hr
      have HLR := Lib.hid hzi.1
      have hlt' : (i : Int) < len := by omega
      have hil : (i : Int) ≤ 2097152 := by omega
      have HLT := Lib.hid hlt
      have HFN := Lib.hid (allN_next hr)
      have hf1 := allN_le rows (i + 1)
      rw [HFN.out, List.length_append, hzi.1] at hf1
      have hf2 := HT.out
      obtain ⟨s, hs⟩ : ∃ s, s = (allN (rows.take i)).length := ⟨_, rfl⟩
      rw [← hs] at hf1 ⊢
      have HS := Lib.hid hs
      obtain ⟨rl, hrl⟩ : ∃ rl, rl = r.len := ⟨_, rfl⟩
      rw [← hrl] at c0 hf1
      have HRL := Lib.hid hrl
      have hsz : (s : Int) + rl ≤ 2097152 := by omega
      have hsz0 : (0 : Int) ≤ (s : Int) + rl := by omega
      clear hlt hi1 hr hzi hf1 hf2 hs hrl
      go_wp2_with fail
      go_roundw
      case rel => exact ⟨i + 1, by push_cast; rfl, by have := HE.out; have := HLT.out; omega, by rw [HFN.out, List.length_append, ← HS.out, HLR.out, ← HRL.out]; push_cast; rfl, rfl⟩
      case measure => have := HLT.out; simp [intOf]; omega
    · have hge : (len : Int) ≤ i := by omega
      have htk : rows.take i = rows := List.take_of_length_le (by have := HE.out; omega)
      rw [htk, ← HTO.out]
      clear hi1 hlt htk
      go_wp2_with fail
      refine (HG.out _).mono ?_
      rintro e W2 ⟨⟨s2, rfl, ho2⟩, hb2⟩
      have HO2 := Lib.hid ho2
      have HB2 := Lib.hid hb2
      clear ho2 hb2 hge
      go_wp2_with fail
      go_loopw [6, 27] (fun o i w3 => JoinN rows W o i w3) (fun _ i _ => len - (intOf i).toNat)
      case atStart => exact ⟨0, rfl, by omega, HO2.out, HB2.out⟩
      case round =>
        obtain ⟨j, rfl, hi1, hown, HB⟩ := hrel
        by_cases hlt : j < len
        · obtain ⟨r, hr⟩ : ∃ r, rows[j]? = some r := ⟨_, List.getElem?_eq_getElem (by have := HE.out; omega)⟩
          obtain ⟨c0, hzi⟩ := (HN.out.keep HB.out) j r hr
          have hlt' : (j : Int) < len := by omega
          have hil : (j : Int) ≤ 2097152 := by omega
          have HLT := Lib.hid hlt
          have HFN := Lib.hid (allN_next hr)
          have hf1 := allN_le rows (j + 1)
          rw [HFN.out, List.length_append] at hf1
          have HF1 := Lib.hid hf1
          have HZI := Lib.hid hzi
          have HO := Lib.hid hown
          have hlt0 := HO.out.lt
          clear hlt hi1 hr hzi hf1 hown
          go_wp2_with (at_builtin; refine wpList_append_nodes rfl _ _ rfl W.heap.size _ _ rfl HO.out _ _ _ _ rfl HZI.out (by have := HF1.out; have := HT.out; omega) HB.out.size ?_; intro v5 w5 ho5 hg5)
          have B5 : Below W.heap.size W w5 := HB.out.grown hg5 HB.out.size (fun g e => (hlt0 g e).1)
          go_roundw
          case rel => exact ⟨j + 1, by push_cast; rfl, by have := HE.out; have := HLT.out; omega, by rw [HFN.out]; exact ho5, B5⟩
          case measure => have := HLT.out; simp [intOf]; omega
        · have hge : (len : Int) ≤ j := by omega
          have htk : rows.take j = rows := List.take_of_length_le (by have := HE.out; omega)
          rw [htk] at hown
          have HO := Lib.hid hown
          clear hi1 hlt htk hown
          go_wp2
          refine bodyPost_ret (v := u6) (by simp [results, Tryz.f38, go_sem]) rfl ⟨⟨_, rfl, HO.out⟩, HB.out⟩

end Go.Proofs.YtnboodcllmdjeaaGreat
