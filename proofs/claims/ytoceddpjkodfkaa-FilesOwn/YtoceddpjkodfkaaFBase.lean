/- Files' states as plain data: names, files, the state; read off the memory. -/
import Derived.Test.YtoceddpjkodfkaaRBase
namespace Go.Proofs.Ytoceddpjkodfkaa
open Go.RowKit
set_option linter.unusedVariables false

theorem str_size (l : List Int) : (strOfNums l).size = l.length := by simp [strOfNums, ByteArray.size]
theorem str_at (l : List Int) (hl : ∀ x ∈ l, 0 ≤ x ∧ x ≤ 255) (k : Nat) (h : k < (strOfNums l).size) : (((strOfNums l)[k]'h).toNat : Int) = l.getD k 0 := by
  have hk : k < l.length := by rw [str_size] at h; exact h
  have e : (strOfNums l)[k]'h = UInt8.ofNat (l[k]).toNat := by
    show (strOfNums l).data[k]'_ = _
    simp [strOfNums]
  have hb := hl l[k] (List.getElem_mem hk)
  rw [e]
  simp [List.getD, hk]
  omega

def In64 (x : Int) : Prop := -9223372036854775808 ≤ x ∧ x ≤ 9223372036854775807

def OctL (l : List Int) : Prop := ∀ x ∈ l, 0 ≤ x ∧ x ≤ 255

def nrow (p : List Int × Int) : List Value := [.string (strOfNums p.1), .int .i64 p.2]

/-- Names: each a text and a number. -/
def NamesW (w : World) (v : Value) (l : List (List Int × Int)) : Prop := (∀ p ∈ l, OctL p.1 ∧ p.1.length ≤ 140737488355328 ∧ In64 p.2) ∧ Rws 2 w v (l.map nrow)

theorem NamesW.up {w w' : World} {v : Value} {l : List (List Int × Int)} (h : NamesW w v l) (hb : Below w.heap.size w w') : NamesW w' v l := ⟨h.1, h.2.up hb⟩

theorem NamesW.len {w : World} {v : Value} {l : List (List Int × Int)} (h : NamesW w v l) : ∃ a cap, v = .slice a l.length cap ∧ l.length ≤ cap ∧ cap ≤ maxLen := by
  obtain ⟨a, cap, e, h1, h2⟩ := h.2.len
  rw [List.length_map] at e h1
  exact ⟨a, cap, e, h1, h2⟩

theorem NamesW.at {w : World} {v : Value} {l : List (List Int × Int)} (h : NamesW w v l) (k : Nat) (hk : k < l.length) :
    ∃ b off cap, v = .slice (some ⟨b, off, none⟩) l.length cap ∧ l.length ≤ cap ∧ cap ≤ maxLen ∧ w.cell? ⟨b, off + k * 2, none⟩ = some (.string (strOfNums (l.getD k ([], 0)).1)) ∧ w.cell? ⟨b, off + k * 2 + 1, none⟩ = some (.int .i64 (l.getD k ([], 0)).2) ∧ OctL (l.getD k ([], 0)).1 ∧ (l.getD k ([], 0)).1.length ≤ 140737488355328 ∧ In64 (l.getD k ([], 0)).2 := by
  obtain ⟨b, off, cap, e, h1, h2, hc⟩ := h.2.at k (by rw [List.length_map]; exact hk)
  rw [List.length_map] at e h1
  have hr : (l.map nrow).getD k [] = nrow (l.getD k ([], 0)) := by simp [List.getD, hk]
  rw [hr] at hc
  have hw := h.1 (l.getD k ([], 0)) (by simp [List.getD, hk])
  exact ⟨b, off, cap, e, h1, h2, hc 0 _ rfl, hc 1 _ rfl, hw.1, hw.2.1, hw.2.2⟩

/-- A file's row: its data's slice, and what it is. -/
def frow (y : Value × Int × List Int × Int) : List Value := [.int .i64 y.2.1, y.1, .int .i64 y.2.2.2]

/-- Files: each a number, octets, how many are synced. -/
def FilesW (w : World) (v : Value) (l : List (Int × List Int × Int)) : Prop := ∃ m : List (Value × Int × List Int × Int), m.map (·.2) = l ∧ Rws 3 w v (m.map frow) ∧ ∀ y ∈ m, Octs w y.1 y.2.2.1 ∧ y.2.2.1.length ≤ 140737488355328 ∧ In64 y.2.1 ∧ In64 y.2.2.2

theorem FilesW.up {w w' : World} {v : Value} {l : List (Int × List Int × Int)} (h : FilesW w v l) (hb : Below w.heap.size w w') : FilesW w' v l := by
  obtain ⟨m, h1, h2, h3⟩ := h
  exact ⟨m, h1, h2.up hb, fun y hy => ⟨(h3 y hy).1.up hb, (h3 y hy).2⟩⟩

theorem FilesW.len {w : World} {v : Value} {l : List (Int × List Int × Int)} (h : FilesW w v l) : ∃ a cap, v = .slice a l.length cap ∧ l.length ≤ cap ∧ cap ≤ maxLen := by
  obtain ⟨m, rfl, h2, h3⟩ := h
  obtain ⟨a, cap, e, h1, h2⟩ := h2.len
  rw [List.length_map] at e h1
  rw [List.length_map]
  exact ⟨a, cap, e, h1, h2⟩

theorem FilesW.at {w : World} {v : Value} {l : List (Int × List Int × Int)} (h : FilesW w v l) (k : Nat) (hk : k < l.length) :
    ∃ b off cap u, v = .slice (some ⟨b, off, none⟩) l.length cap ∧ l.length ≤ cap ∧ cap ≤ maxLen ∧ w.cell? ⟨b, off + k * 3, none⟩ = some (.int .i64 (l.getD k (0, [], 0)).1) ∧ w.cell? ⟨b, off + k * 3 + 1, none⟩ = some u ∧ w.cell? ⟨b, off + k * 3 + 2, none⟩ = some (.int .i64 (l.getD k (0, [], 0)).2.2) ∧
      Octs w u (l.getD k (0, [], 0)).2.1 ∧ (l.getD k (0, [], 0)).2.1.length ≤ 140737488355328 ∧ In64 (l.getD k (0, [], 0)).1 ∧ In64 (l.getD k (0, [], 0)).2.2 := by
  obtain ⟨m, rfl, h2, h3⟩ := h
  rw [List.length_map] at hk
  obtain ⟨b, off, cap, e, h1, h2, hc⟩ := h2.at k (by rw [List.length_map]; exact hk)
  rw [List.length_map] at e h1
  have hr : (m.map frow).getD k [] = frow m[k] := by simp [List.getD, hk]
  have hl : (m.map (·.2)).getD k (0, [], 0) = m[k].2 := by simp [List.getD, hk]
  rw [hr] at hc
  rw [hl, List.length_map]
  have hw := h3 m[k] (List.getElem_mem hk)
  exact ⟨b, off, cap, m[k].1, e, h1, h2, hc 0 _ rfl, hc 1 _ rfl, hc 2 _ rfl, hw.1, hw.2.1, hw.2.2.1, hw.2.2.2⟩

theorem Octs.slice {w : World} {v : Value} {l : List Int} (h : Octs w v l) : ∃ a cap, v = .slice a l.length cap ∧ l.length ≤ cap := by
  obtain ⟨_, h⟩ := h
  rcases h with ⟨rfl, a, cap, rfl, _⟩ | ⟨hn, b, off, cap, rfl, hc, hm, hj⟩
  · exact ⟨a, cap, rfl, Nat.zero_le _⟩
  · exact ⟨_, cap, rfl, hc⟩

/-- A state. -/
structure St where
  cap : Int
  files : List (Int × List Int × Int)
  names : List (List Int × Int)
  safe : List (List Int × Int)
  next : Int

def StW (w : World) (v : Value) (s : St) : Prop := ∃ vf vn vs, v = .agg #[.int .i64 s.cap, vf, vn, vs, .int .i64 s.next] ∧ FilesW w vf s.files ∧ NamesW w vn s.names ∧ NamesW w vs s.safe ∧ In64 s.cap ∧ In64 s.next

theorem StW.up {w w' : World} {v : Value} {s : St} (h : StW w v s) (hb : Below w.heap.size w w') : StW w' v s := by
  obtain ⟨vf, vn, vs, e, h1, h2, h3, h4⟩ := h
  exact ⟨vf, vn, vs, e, h1.up hb, h2.up hb, h3.up hb, h4⟩

/-! ### What the document says, plainly -/

def mayOf (s : List Int) : Bool := decide (1 ≤ s.length) && decide (s.length ≤ 32) && s.all fun x => decide (33 ≤ x) && decide (x ≤ 126)

/-- The place of the first that fits; -1: there is none. -/
def placeOf {A : Type} (p : A → Bool) : List A → Int
  | [] => -1
  | x :: l => if p x then 0 else if placeOf p l = -1 then -1 else placeOf p l + 1

theorem placeOf_none {A : Type} (p : A → Bool) (l : List A) (h : ∀ x ∈ l, p x = false) : placeOf p l = -1 := by
  induction l with
  | nil => rfl
  | cons x l ih => simp [placeOf, h x (by simp), ih (fun y hy => h y (by simp [hy]))]

theorem placeOf_at {A : Type} (p : A → Bool) : ∀ (l : List A) (k : Nat) (x : A), l[k]? = some x → p x = true → (∀ y ∈ l.take k, p y = false) → placeOf p l = (k : Int)
  | [], k, x, h, _, _ => by simp at h
  | y :: l, 0, x, h, hp, _ => by
    simp at h
    subst h
    simp [placeOf, hp]
  | y :: l, k + 1, x, h, hp, hn => by
    simp at h
    have e := placeOf_at p l k x h hp (fun z hz => hn z (by simp [hz]))
    simp only [placeOf, hn y (by simp), Bool.false_eq_true, if_false, e]
    rw [if_neg (by omega)]
    omega

def fileOf (l : List (Int × List Int × Int)) (id : Int) : Int := placeOf (fun f => f.1 == id) l
def findOf (l : List (List Int × Int)) (s : List Int) : Int := placeOf (fun p => decide (p.1 = s)) l
def standsOf (l : List (List Int × Int)) (id : Int) : Bool := l.any fun p => p.2 == id
def usedOf (l : List (Int × List Int × Int)) : Int := (l.map fun f => (f.2.1.length : Int)).sum

end Go.Proofs.Ytoceddpjkodfkaa
