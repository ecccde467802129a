/-
  What the laws of frames use: the posts of the contracts, opened.
-/
import Derived.Test.YtdlkofgapjdeaaaFh
import Derived.Test.YtdlkofgapjdeaaaGc
import Derived.Test.YtdlkofgapjdeaaaGe
namespace Go.Proofs.Ytdlkofgapjdeaaa
open Go.RowKit
set_option linter.unusedVariables false

theorem own_caps {W : World} {base n size : Nat} {e : TypeId} {v : Value} {xs : List Value} (h : W.ownsRow base e size v n xs) : ∃ a c, v = .slice a n c ∧ n ≤ c ∧ c ≤ maxLen := by
  rcases h.2 with ⟨rfl, rfl⟩ | ⟨g, cap, cur, rfl, _, _, h4, h5, _⟩
  · exact ⟨none, 0, rfl, Nat.le_refl _, Nat.zero_le _⟩
  · exact ⟨_, _, rfl, h4, h5⟩

theorem OwnsInts.at {base : Nat} {zs : List Int} {e : Ending} {w' : World} (h : OwnsInts base zs e w') : ∃ a c, e = .returned (.slice a zs.length c) ∧ IntsAt w' a zs.length zs ∧ zs.length ≤ c ∧ c ≤ maxLen := by
  obtain ⟨sl, rfl, ho⟩ := h
  obtain ⟨a, c, rfl, hi⟩ := ints_of_own ho
  obtain ⟨a', c', he, h1, h2⟩ := own_caps ho
  cases he
  exact ⟨a, c, rfl, hi, h1, h2⟩

theorem IntsPost.at {m : Nat} {W w' : World} {e : Ending} (h : IntsPost m W e w') : ∃ a c zs, e = .returned (.slice a zs.length c) ∧ IntsAt w' a zs.length zs ∧ zs.length ≤ m ∧ zs.length ≤ c ∧ c ≤ maxLen ∧ Below W.heap.size W w' := by
  obtain ⟨sl, zs, rfl, ho, hl, _, hb⟩ := h
  obtain ⟨a, c, he, hi, h1, h2⟩ := OwnsInts.at ⟨sl, rfl, ho⟩
  exact ⟨a, c, zs, he, hi, hl, h1, h2, hb⟩

theorem TabPost.at {W w' : World} {e : Ending} (h : TabPost W e w') : ∃ a c bs, e = .returned (.slice a bs.length c) ∧ TabAt w' a bs.length bs ∧ bs.length ≤ 41 ∧ ShortT 17 bs ∧ bs.length ≤ c ∧ c ≤ maxLen ∧ Below W.heap.size W w' := by
  obtain ⟨sl, vs, bs, rfl, ho, hi, hl, hs, hb⟩ := h
  obtain ⟨a, c, rfl, ht⟩ := tab_of_own ho hi
  obtain ⟨a', c', he, h1, h2⟩ := own_caps ho
  cases he
  exact ⟨a, c, bs, rfl, ht, hl, hs, h1, h2, hb⟩

theorem FPost.at {r : Option (List Int)} {W w' : World} {e : Ending} (h : FPost r W e w') :
    ∃ a c out b, e = .returned (.tuple #[.slice a out.length c, .bool b]) ∧ ((b = true ∧ r = some out) ∨ (b = false ∧ r = none ∧ out = [])) ∧ IntsAt w' a out.length out ∧ out.length ≤ c ∧ c ≤ maxLen ∧ Below W.heap.size W w' := by
  obtain ⟨sl, out, b, rfl, hr, ho, hb⟩ := h
  obtain ⟨a, c, he, hi, h1, h2⟩ := OwnsInts.at ⟨sl, rfl, ho⟩
  cases he
  exact ⟨a, c, out, b, rfl, hr, hi, h1, h2, hb⟩

theorem ScanPost.at {r : List (List Int) × Nat} {W w' : World} {e : Ending} (h : ScanPost r W e w') :
    ∃ a c, e = .returned (.tuple #[.slice a r.1.length c, .int .i64 r.2]) ∧ TabAt w' a r.1.length r.1 ∧ r.1.length ≤ c ∧ c ≤ maxLen ∧ Below W.heap.size W w' := by
  obtain ⟨sl, vs, rfl, ho, hi, hb⟩ := h
  obtain ⟨a, c, rfl, ht⟩ := tab_of_own ho hi
  obtain ⟨a', c', he, h1, h2⟩ := own_caps ho
  cases he
  exact ⟨a, c, rfl, ht, h1, h2, hb⟩

theorem rem_nat (n m : Nat) (hm : 0 < m) : ((n : Int)).tmod m = ((n % m : Nat) : Int) := by
  rw [Int.tmod_eq_emod_of_nonneg (by omega)]; simp

theorem ints_take {W : World} {a : Option Addr} {len k : Nat} {zs : List Int} (h : IntsAt W a len zs) (hk : k ≤ len) : IntsAt W a k (zs.take k) := by
  obtain ⟨h1, h2⟩ := h
  refine ⟨by rw [List.length_take]; omega, ?_⟩
  rcases h2 with h0 | ⟨b, off, ha, hc⟩
  · exact .inl (by omega)
  · refine .inr ⟨b, off, ha, fun i n hn => hc i n ?_⟩
    rw [List.getElem?_take] at hn
    split at hn
    · exact hn
    · cases hn

theorem tab_take {W : World} {a : Option Addr} {len k : Nat} {bs : List (List Int)} (h : TabAt W a len bs) (hk : k ≤ len) : TabAt W a k (bs.take k) := by
  obtain ⟨h1, h2⟩ := h
  refine ⟨by rw [List.length_take]; omega, ?_⟩
  rcases h2 with h0 | ⟨b, off, ha, hc⟩
  · exact .inl (by omega)
  · refine .inr ⟨b, off, ha, fun i n hn => hc i n ?_⟩
    rw [List.getElem?_take] at hn
    split at hn
    · exact hn
    · cases hn

theorem tab_drop {W : World} {a : Option Addr} {len k : Nat} {bs : List (List Int)} (h : TabAt W a len bs) (hk : k ≤ len) : TabAt W (a.map fun x => x.add k) (len - k) (bs.drop k) := by
  obtain ⟨h1, h2⟩ := h
  refine ⟨by rw [List.length_drop]; omega, ?_⟩
  rcases h2 with h0 | ⟨b, off, ha, hc⟩
  · exact .inl (by omega)
  · refine .inr ⟨b, off + k, by rw [ha, Option.map_some, add_off], fun i n hn => ?_⟩
    rw [List.getElem?_drop] at hn
    rw [show off + k + i = off + (k + i) by omega]
    exact hc _ n hn

theorem ShortT.take {m : Nat} {bs : List (List Int)} (h : ShortT m bs) (k : Nat) : ShortT m (bs.take k) := fun b hb => h b (List.mem_of_mem_take hb)
theorem ShortT.drop {m : Nat} {bs : List (List Int)} (h : ShortT m bs) (k : Nat) : ShortT m (bs.drop k) := fun b hb => h b (List.mem_of_mem_drop hb)
theorem ShortT.mono {m n : Nat} {bs : List (List Int)} (h : ShortT m bs) (hmn : m ≤ n) : ShortT n bs := fun b hb => Nat.le_trans (h b hb) hmn
theorem shortT_ok {bs : List (List Int)} (h : bs.all bodyOk = true) : ShortT 16 bs := fun b hb => (bodyOk_len (List.all_eq_true.1 h b hb)).2

end Go.Proofs.Ytdlkofgapjdeaaa
