/-
  What the rows' lists of variables give: strconv's two sentinels hold some error.
-/
import Derived.Test.YtnmpbocnbcokeabDoorRows
import Derived.Test.YtnmpbocnbcokeabDoorCn
import Derived.LaidLaws
import Derived.LaidMore
import Derived.MakeChecks
import Derived.FnData
namespace Go.Proofs.YtnmpbocnbcokeabDoor
open Go.RowKit Go.ChangeShapes Go.WideShapes

def isIface {H : Type} : DataW H → Bool
  | .iface _ _ => true
  | _ => false

theorem laidVars_mem {P : Program} {W : World} : ∀ (laid : List (String × DataW Unit)) (ps : List MemPlace), DataW.LaidVars P W laid ps → ∀ x ∈ laid,
    ∃ g t cs fuel p, P.globalNamed x.1 = some g ∧ (P.globals[g]?).map (·.type) = some t ∧ W.var? P x.1 = some cs ∧ DataW.trod (fun _ => ()) P W 0 (fun _ => true) false fuel t cs.toList = some (x.2, p)
  | [], ps, _, x, hx => by cases hx
  | (n, d) :: r, ps, h, x, hx => by
    obtain ⟨g, t, cs, fuel, p, q, h1, h2, h3, h4, h5, -⟩ := h
    rcases List.mem_cons.1 hx with rfl | hx
    · exact ⟨g, t, cs, fuel, p, h1, h2, h3, h4⟩
    · exact laidVars_mem r q h5 x hx

theorem laid_iface {P : Program} {W : World} {laid : List (String × DataW Unit)} {name : String} {g t : Nat} {ms : Array (String × TypeId)} (h : laidMet P laid W)
    (hf : (laid.find? (fun x => x.1 == name)).map (fun x => isIface x.2) = some true) (hg : P.globalNamed name = some g) (ht : (P.globals[g]?).map (·.type) = some t) (hu : P.underlying t = some (.interface ms)) :
    ∃ u v, W.cell? ⟨g, 0, none⟩ = some (.iface u v) := by
  obtain ⟨ps, hv, -, -⟩ := h
  cases hx : laid.find? (fun x => x.1 == name) with
  | none => rw [hx] at hf; cases hf
  | some x =>
    rw [hx] at hf
    have hn : x.1 = name := by simpa using List.find?_some hx
    obtain ⟨g', t', cs, fuel, p, h1, h2, h3, h4⟩ := laidVars_mem laid ps hv x (List.mem_of_find?_eq_some hx)
    subst hn
    obtain rfl := Option.some.inj (hg.symm.trans h1)
    obtain rfl := Option.some.inj (ht.symm.trans h2)
    obtain ⟨n, d⟩ := x
    cases d with
    | iface nm d =>
      obtain ⟨f', u, v, hcs, -, -⟩ := iface_of_trod hu h4
      refine ⟨u, v, ?_⟩
      have := World.var?_cell hg h3 0
      rw [this, ← Array.getElem?_toList, hcs]
      rfl
    | _ => simp [isIface] at hf

theorem errVars_of {W : World} {laid : List (String × DataW Unit)} (h : laidMetH Tryd.prog laid W) (hp : (laid.all fun x => x.2.handleName?.isNone) = true)
    (h1 : (laid.find? (fun x => x.1 == "strconv.ErrSyntax")).map (fun x => isIface x.2) = some true) (h2 : (laid.find? (fun x => x.1 == "strconv.ErrRange")).map (fun x => isIface x.2) = some true) : ErrVars W := by
  rw [MakeChecks.laidMetH_plain _ _ _ hp] at h
  obtain ⟨u1, v1, e1⟩ := laid_iface h h1 (g := 3) (t := 56) (by kernel_rfl) (by kernel_rfl) Tryd.underlying56
  obtain ⟨u2, v2, e2⟩ := laid_iface h h2 (g := 4) (t := 56) (by kernel_rfl) (by kernel_rfl) Tryd.underlying56
  exact ⟨⟨_, e1, .inr ⟨u1, v1, rfl⟩⟩, _, e2, .inr ⟨u2, v2, rfl⟩⟩

end Go.Proofs.YtnmpbocnbcokeabDoor
