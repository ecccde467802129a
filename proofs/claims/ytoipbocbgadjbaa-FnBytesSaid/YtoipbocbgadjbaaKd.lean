/-
  PLAIN MATHEMATICS OF JOURNALS: the bytes of commands and of logs, and what is loaded (P119 to P125).
-/
import Derived.Test.YtoipbocbgadjbaaLg
import Derived.Test.YtoipbocbgadjbaaFm
namespace Go.Proofs.Ytoipbocbgadjbaa

/-- The bytes of a text, as numbers. -/
def intsB (p : ByteArray) : List Int := p.data.toList.map fun b => (b.toNat : Int)
/-- The text of numbers. -/
def byI (n : Int) : UInt8 := UInt8.ofNat n.toNat
def textI (zs : List Int) : ByteArray := ⟨(zs.map byI).toArray⟩

def cmdBytes (c : Cmd) : List Int := if validC c = true then c.fk :: c.fv :: c.tk :: c.tv :: intsB c.p else []
def cmdOf (b : List Int) : Cmd := ⟨textI (b.drop 4), b.getD 0 0, b.getD 1 0, b.getD 2 0, b.getD 3 0⟩
def fromOk (b : List Int) : Bool := decide (5 ≤ b.length) && (bodyOk b && validC (cmdOf b))
def cmdFrom (b : List Int) : Cmd × Bool := if fromOk b = true then (cmdOf b, true) else (zeroC, false)
def logBytes (cs : List Cmd) : Option (List Int) := if validL cs = true then some (framesL (cs.map cmdBytes)) else none

def loadGo : Nat → List (List Int) → List Cmd × Nat
  | 0, _ => ([], 0)
  | _ + 1, [] => ([], 0)
  | k + 1, b :: bs => if fromOk b = true then (cmdOf b :: (loadGo k bs).1, b.length + 2 + (loadGo k bs).2) else ([], 0)
def logLoad (l : List Int) : List Cmd × Nat := loadGo 20 (scanL l).1

theorem byI_nat (b : UInt8) : byI (b.toNat : Int) = b := by
  unfold byI
  rw [Int.toNat_natCast]
  simp
theorem byI_back {n : Int} (h : 0 ≤ n ∧ n ≤ 255) : ((byI n).toNat : Int) = n := by
  unfold byI
  rw [UInt8.toNat_ofNat']
  omega

theorem textI_ints (p : ByteArray) : textI (intsB p) = p := by
  unfold textI intsB
  rw [List.map_map]
  have : (byI ∘ fun b : UInt8 => (b.toNat : Int)) = id := by funext b; exact byI_nat b
  rw [this, List.map_id]
theorem ints_textI {zs : List Int} (h : ∀ z ∈ zs, 0 ≤ z ∧ z ≤ 255) : intsB (textI zs) = zs := by
  unfold textI intsB
  show List.map _ (zs.map byI) = zs
  rw [List.map_map]
  conv => rhs; rw [← List.map_id zs]
  exact List.map_congr_left fun z hz => byI_back (h z hz)
theorem intsB_length (p : ByteArray) : (intsB p).length = p.size := by
  unfold intsB
  rw [List.length_map]
  exact Array.length_toList
theorem intsB_byte (p : ByteArray) : ∀ z ∈ intsB p, 0 ≤ z ∧ z ≤ 255 := by
  intro z hz
  unfold intsB at hz
  obtain ⟨b, _, rfl⟩ := List.mem_map.1 hz
  have := b.toNat_lt
  omega

/-- A path is short. -/
theorem path_size {p : ByteArray} (h : 1 ≤ depB p) : 1 ≤ p.size ∧ p.size ≤ 8 := by
  obtain ⟨w, hw, e⟩ := vpB_word (vp_of_depth h)
  subst e
  rw [depB_pB hw] at h
  have h4 := hw.1
  have e2 : (pB w).size = (Pm.pathOf w).length := Array.length_toList.symm
  rw [e2]
  unfold Pm.pathOf
  rw [if_neg (by rintro rfl; simp at h)]
  have : ∀ v : List UInt8, (Pm.flat v).length = 2 * v.length := by
    intro v
    induction v with
    | nil => rfl
    | cons x v ih => simp [Pm.flat] at ih ⊢; omega
  rw [this]
  omega

theorem byteOk_of {z : Int} (h : 0 ≤ z ∧ z ≤ 255) : byteOk z = true := by unfold byteOk; exact decide_eq_true h
theorem validB_byte {k v : Int} (h : validB k v = true) : (0 ≤ k ∧ k ≤ 255) ∧ 0 ≤ v ∧ v ≤ 255 := by
  unfold validB at h
  have := of_decide_eq_true h
  omega

theorem cmdBytes_ok {c : Cmd} (h : validC c = true) : cmdBytes c = c.fk :: c.fv :: c.tk :: c.tv :: intsB c.p := if_pos h
theorem cmdBytes_bad {c : Cmd} (h : validC c = false) : cmdBytes c = [] := if_neg (by rw [h]; decide)
theorem cmdBytes_length {c : Cmd} (h : validC c = true) : (cmdBytes c).length = 4 + c.p.size ∧ c.p.size ≤ 8 ∧ 1 ≤ c.p.size := by
  rw [cmdBytes_ok h]
  have := path_size ((validC_iff c).1 h).1
  simp [intsB_length]
  omega
theorem cmdBytes_le (c : Cmd) : (cmdBytes c).length ≤ 12 := by
  cases h : validC c with
  | true => have := cmdBytes_length h; omega
  | false => rw [cmdBytes_bad h]; simp
theorem cmdBytes_body {c : Cmd} (h : validC c = true) : bodyOk (cmdBytes c) = true := by
  have hl := cmdBytes_length h
  obtain ⟨_, h2, h3, _⟩ := (validC_iff c).1 h
  unfold bodyOk
  rw [Bool.and_eq_true]
  refine ⟨?_, decide_eq_true (by omega)⟩
  rw [cmdBytes_ok h]
  have a := validB_byte h2
  have b := validB_byte h3
  simp only [List.all_cons, Bool.and_eq_true]
  refine ⟨byteOk_of a.1, byteOk_of a.2, byteOk_of b.1, byteOk_of b.2, ?_⟩
  rw [List.all_eq_true]
  exact fun z hz => byteOk_of (intsB_byte _ z hz)

theorem cmdOf_bytes {c : Cmd} (h : validC c = true) : cmdOf (cmdBytes c) = c := by
  rw [cmdBytes_ok h]
  unfold cmdOf
  simp only [List.drop_succ_cons, List.drop_zero, textI_ints]
  rfl

/-- P119: the bytes of a command are read. -/
theorem from_bytes {c : Cmd} (h : validC c = true) : fromOk (cmdBytes c) = true := by
  unfold fromOk
  have hl := cmdBytes_length h
  rw [cmdOf_bytes h, h, cmdBytes_body h]
  simp
  omega
theorem cmdFrom_bytes {c : Cmd} (h : validC c = true) : cmdFrom (cmdBytes c) = (c, true) := by
  unfold cmdFrom
  rw [if_pos (from_bytes h), cmdOf_bytes h]

theorem fromOk_iff (b : List Int) : fromOk b = true ↔ 5 ≤ b.length ∧ bodyOk b = true ∧ validC (cmdOf b) = true := by
  unfold fromOk
  simp only [Bool.and_eq_true, decide_eq_true_eq]

/-- P120: what is read can be written. -/
theorem bytes_from {b : List Int} (h : fromOk b = true) : cmdBytes (cmdOf b) = b := by
  obtain ⟨h1, h2, h3⟩ := (fromOk_iff b).1 h
  rw [cmdBytes_ok h3]
  match b, h1 with
  | x :: y :: z :: u :: r, _ =>
    show x :: y :: z :: u :: intsB (textI r) = _
    rw [ints_textI]
    intro w hw
    exact bodyOk_byte h2 (by simp [hw])

theorem cmdFrom_yes {b : List Int} (h : fromOk b = true) : cmdFrom b = (cmdOf b, true) := if_pos h
theorem cmdFrom_no {b : List Int} (h : fromOk b = false) : cmdFrom b = (zeroC, false) := if_neg (by rw [h]; decide)

theorem logBytes_yes {cs : List Cmd} (h : validL cs = true) : logBytes cs = some (framesL (cs.map cmdBytes)) := if_pos h
theorem logBytes_no {cs : List Cmd} (h : validL cs = false) : logBytes cs = none := if_neg (by rw [h]; decide)

theorem bodies_ok {cs : List Cmd} (h : ∀ c ∈ cs, validC c = true) : (cs.map cmdBytes).all bodyOk = true := by
  rw [List.all_eq_true]
  intro b hb
  obtain ⟨c, hc, rfl⟩ := List.mem_map.1 hb
  exact cmdBytes_body (h c hc)

theorem loadGo_len : ∀ (k : Nat) (bs : List (List Int)), (loadGo k bs).1.length ≤ k ∧ (loadGo k bs).1.length ≤ bs.length
  | 0, _ => ⟨Nat.zero_le _, Nat.zero_le _⟩
  | _ + 1, [] => ⟨Nat.zero_le _, Nat.zero_le _⟩
  | k + 1, b :: bs => by
    unfold loadGo
    have := loadGo_len k bs
    split <;> simp
    omega

/-- What was loaded was written. -/
theorem loadGo_told : ∀ (k : Nat) (bs : List (List Int)), (∀ c ∈ (loadGo k bs).1, validC c = true) ∧ (loadGo k bs).1.map cmdBytes = bs.take (loadGo k bs).1.length ∧ (loadGo k bs).2 = (framesL ((loadGo k bs).1.map cmdBytes)).length
  | 0, _ => ⟨by simp [loadGo], rfl, rfl⟩
  | _ + 1, [] => ⟨by simp [loadGo], rfl, rfl⟩
  | k + 1, b :: bs => by
    unfold loadGo
    obtain ⟨i1, i2, i3⟩ := loadGo_told k bs
    by_cases h : fromOk b = true
    · rw [if_pos h]
      refine ⟨?_, ?_, ?_⟩
      · intro c hc
        rcases List.mem_cons.1 hc with rfl | hc
        · exact ((fromOk_iff b).1 h).2.2
        · exact i1 c hc
      · simp only [List.map_cons, List.length_cons, List.take_succ_cons, bytes_from h, i2]
      · simp only [List.map_cons, framesL_cons, List.length_append, frame_length, bytes_from h, ← i3]
    · rw [if_neg h]
      exact ⟨by simp, rfl, rfl⟩

/-- What was written is loaded. -/
theorem loadGo_bytes : ∀ (k : Nat) (cs : List Cmd), (∀ c ∈ cs, validC c = true) → cs.length ≤ k → loadGo k (cs.map cmdBytes) = (cs, (framesL (cs.map cmdBytes)).length)
  | 0, [], _, _ => rfl
  | _ + 1, [], _, _ => rfl
  | k + 1, c :: cs, h, hl => by
    have hc := h c (List.mem_cons_self ..)
    show loadGo (k + 1) (cmdBytes c :: cs.map cmdBytes) = _
    unfold loadGo
    rw [if_pos (from_bytes hc), cmdOf_bytes hc, loadGo_bytes k cs (fun d hd => h d (List.mem_cons_of_mem _ hd)) (by simpa using hl)]
    simp [framesL_cons, frame_length]

/-- A part of the bodies gives a part of the commands. -/
theorem loadGo_part : ∀ (k : Nat) (xs bs : List (List Int)), xs <+: bs → (loadGo k xs).1 <+: (loadGo k bs).1
  | 0, _, _, _ => List.prefix_refl _
  | _ + 1, [], _, _ => List.nil_prefix
  | k + 1, a :: xs, bs, h => by
    obtain ⟨t, rfl⟩ := h
    show (loadGo (k + 1) (a :: xs)).1 <+: (loadGo (k + 1) (a :: (xs ++ t))).1
    unfold loadGo
    split
    · obtain ⟨t', ht⟩ := loadGo_part k xs (xs ++ t) ⟨t, rfl⟩
      exact ⟨t', by show _ :: _ ++ t' = _ :: _; rw [List.cons_append, ht]⟩
    · exact List.prefix_refl _

theorem load_valid (l : List Int) : validL (logLoad l).1 = true := by
  rw [validL_iff]
  exact ⟨(loadGo_told 20 _).1, (loadGo_len 20 _).1⟩

/-- P123: what is loaded was written. -/
theorem load_told (l : List Int) : framesL ((logLoad l).1.map cmdBytes) = l.take (logLoad l).2 ∧ (logLoad l).2 ≤ l.length ∧ (framesL ((logLoad l).1.map cmdBytes)).length = (logLoad l).2 := by
  obtain ⟨_, h2, h3⟩ := loadGo_told 20 (scanL l).1
  obtain ⟨s1, s2, s3⟩ := scan_sound l
  have e : framesL (scanL l).1 = framesL ((logLoad l).1.map cmdBytes) ++ framesL ((scanL l).1.drop (logLoad l).1.length) := by
    rw [← framesL_append]
    unfold logLoad
    rw [h2, List.take_append_drop]
  have hn : (logLoad l).2 = (framesL ((logLoad l).1.map cmdBytes)).length := h3
  have hle : (framesL ((logLoad l).1.map cmdBytes)).length ≤ (scanL l).2 := by
    have := congrArg List.length e
    rw [s2, List.length_take, List.length_append] at this
    omega
  refine ⟨?_, by omega, hn.symm⟩
  have e2 : framesL ((logLoad l).1.map cmdBytes) = (l.take (scanL l).2).take (logLoad l).2 := by
    rw [← s2, e, hn, List.take_left']
    rfl
  rw [e2, List.take_take, Nat.min_eq_left (by omega)]

/-- P121: the bytes of a log are read. -/
theorem load_bytes {cs : List Cmd} (h : validL cs = true) : logLoad (framesL (cs.map cmdBytes)) = (cs, (framesL (cs.map cmdBytes)).length) := by
  obtain ⟨h1, h2⟩ := (validL_iff cs).1 h
  unfold logLoad
  rw [scan_all (bodies_ok h1)]
  exact loadGo_bytes 20 cs h1 h2

/-- P122: a torn log has a beginning. -/
theorem load_torn {cs : List Cmd} (h : validL cs = true) (k : Nat) : (logLoad ((framesL (cs.map cmdBytes)).take k)).2 ≤ k ∧ (logLoad ((framesL (cs.map cmdBytes)).take k)).1 <+: cs := by
  constructor
  · have h2 := (load_told ((framesL (cs.map cmdBytes)).take k)).2.1
    rw [List.length_take] at h2
    omega
  · have hp := (scan_part (framesL (cs.map cmdBytes)) k).2.2
    have := loadGo_part 20 _ _ hp
    have hb := load_bytes h
    unfold logLoad at hb ⊢
    rw [hb] at this
    exact this

/-- P124: bytes that are used are enough. -/
theorem load_again (l : List Int) : logLoad (l.take (logLoad l).2) = logLoad l := by
  obtain ⟨h1, _, h3⟩ := load_told l
  rw [← h1, load_bytes (load_valid l), h3]

/-- P125: logs are one behind the other. -/
theorem log_join (cs : List Cmd) (k : Nat) : framesL (cs.map cmdBytes) = framesL ((cs.take k).map cmdBytes) ++ framesL ((cs.drop k).map cmdBytes) := by
  rw [← framesL_append, ← List.map_append, List.take_append_drop]

theorem frames_len {cs : List Cmd} (h : validL cs = true) : (framesL (cs.map cmdBytes)).length ≤ 280 := by
  obtain ⟨h1, h2⟩ := (validL_iff cs).1 h
  have : ∀ ds : List Cmd, (framesL (ds.map cmdBytes)).length ≤ 14 * ds.length := by
    intro ds
    induction ds with
    | nil => simp [framesL]
    | cons d ds ih =>
      have := cmdBytes_le d
      simp only [List.map_cons, framesL_cons, List.length_append, frame_length, List.length_cons]
      omega
  have := this cs
  omega

end Go.Proofs.Ytoipbocbgadjbaa
