/- A disk, plain: what is read, what is kept, the writes that wait, its power. -/
import Derived.Test.YthkecbgifajmmaaDoorBase
namespace Go.Proofs.YthkecbgifajmmaaDoor

/-- A text with bytes 0 behind, up to 64. -/
def padS (s : ByteArray) : ByteArray := ⟨(s.data.toList ++ List.replicate (64 - s.size) 0).toArray⟩
theorem padS_size (s : ByteArray) (h : s.size ≤ 64) : (padS s).size = 64 := by
  show (s.data.toList ++ List.replicate (64 - s.size) (0 : UInt8)).toArray.size = 64
  have : s.data.toList.length = s.size := by simp
  simp only [List.size_toArray, List.length_append, List.length_replicate, this]
  omega
def zeroS : ByteArray := padS ByteArray.empty
theorem zeroS_size : zeroS.size = 64 := padS_size _ (by decide)

def updS (f : Nat → ByteArray) (i : Nat) (s : ByteArray) : Nat → ByteArray := fun j => if j = i then s else f j
theorem updS_at (f : Nat → ByteArray) (i : Nat) (s : ByteArray) : updS f i s i = s := by simp [updS]
theorem updS_ne (f : Nat → ByteArray) (i j : Nat) (s : ByteArray) (h : j ≠ i) : updS f i s j = f j := by simp [updS, h]

/-- The k-th write that waits. -/
def wat (l : List (Nat × ByteArray)) (k : Nat) : Nat × ByteArray := l.getD k (0, zeroS)
theorem wat_get {l : List (Nat × ByteArray)} {k : Nat} (h : k < l.length) : l[k]? = some (wat l k) := by simp [wat, List.getD, List.getElem?_eq_getElem h]
theorem wat_left (l : List (Nat × ByteArray)) (x : Nat × ByteArray) (k : Nat) (h : k < l.length) : wat (l ++ [x]) k = wat l k := by
  simp [wat, List.getD, List.getElem?_append_left h]
theorem wat_last (l : List (Nat × ByteArray)) (x : Nat × ByteArray) : wat (l ++ [x]) l.length = x := by simp [wat, List.getD]
theorem wat_mem {l : List (Nat × ByteArray)} {k : Nat} (h : k < l.length) : wat l k ∈ l := List.mem_of_getElem? (wat_get h)

/-- The first k of the writes, those that b names, one behind the other. -/
def kfS (b : Nat → Bool) (f : Nat → ByteArray) (l : List (Nat × ByteArray)) : Nat → Nat → ByteArray
  | 0 => f
  | k + 1 => if b k then updS (kfS b f l k) (wat l k).1 (wat l k).2 else kfS b f l k
theorem kfS_left (b : Nat → Bool) (f : Nat → ByteArray) (l : List (Nat × ByteArray)) (x : Nat × ByteArray) (k : Nat) (h : k ≤ l.length) : kfS b f (l ++ [x]) k = kfS b f l k := by
  induction k with
  | zero => rfl
  | succ k ih => unfold kfS; rw [ih (by omega), wat_left l x k (by omega)]
def allS : Nat → Bool := fun _ => true
theorem kfS_last (f : Nat → ByteArray) (l : List (Nat × ByteArray)) (x : Nat × ByteArray) : kfS allS f (l ++ [x]) (l ++ [x]).length = updS (kfS allS f l l.length) x.1 x.2 := by
  rw [List.length_append, List.length_singleton]
  have e : kfS allS f (l ++ [x]) (l.length + 1) = updS (kfS allS f (l ++ [x]) l.length) (wat (l ++ [x]) l.length).1 (wat (l ++ [x]) l.length).2 := rfl
  rw [e, kfS_left _ _ _ _ _ (Nat.le_refl _), wat_last]
/-- Where nothing is written all stays. -/
theorem kfS_far (b : Nat → Bool) (f : Nat → ByteArray) (l : List (Nat × ByteArray)) (i k : Nat) (h : ∀ j, j < k → (wat l j).1 ≠ i) : kfS b f l k i = f i := by
  induction k with
  | zero => rfl
  | succ k ih =>
    unfold kfS
    have h1 := ih (fun j hj => h j (by omega))
    split
    · rw [updS_ne _ _ _ _ (fun e => h k (by omega) e.symm)]; exact h1
    · exact h1
theorem kfS_size {b : Nat → Bool} {f : Nat → ByteArray} {l : List (Nat × ByteArray)} (hf : ∀ i, (f i).size = 64) (hl : ∀ x ∈ l, x.2.size = 64) (k i : Nat) (hk : k ≤ l.length) : (kfS b f l k i).size = 64 := by
  induction k with
  | zero => exact hf i
  | succ k ih =>
    unfold kfS
    split
    · unfold updS
      split
      · exact hl _ (wat_mem (by omega))
      · exact ih (by omega)
    · exact ih (by omega)

/-- What they wrote over is there again. -/
def nfS (g f : Nat → ByteArray) (l : List (Nat × ByteArray)) : Nat → Nat → ByteArray
  | 0 => f
  | k + 1 => updS (nfS g f l k) (wat l k).1 (g (wat l k).1)
theorem nfS_is (g f : Nat → ByteArray) (l : List (Nat × ByteArray)) (i k : Nat) : nfS g f l k i = g i ∨ (nfS g f l k i = f i ∧ ∀ j, j < k → (wat l j).1 ≠ i) := by
  induction k with
  | zero => exact .inr ⟨rfl, fun j hj => by omega⟩
  | succ k ih =>
    unfold nfS
    by_cases e : i = (wat l k).1
    · subst e; rw [updS_at]; exact .inl rfl
    · rw [updS_ne _ _ _ _ e]
      rcases ih with h | ⟨h, h2⟩
      · exact .inl h
      · refine .inr ⟨h, fun j hj => ?_⟩
        by_cases q : j = k
        · subst q; exact fun e2 => e e2.symm
        · exact h2 j (by omega)
theorem nfS_size {g f : Nat → ByteArray} {l : List (Nat × ByteArray)} (hf : ∀ i, (f i).size = 64) (hg : ∀ i, (g i).size = 64) (k i : Nat) : (nfS g f l k i).size = 64 := by
  rcases nfS_is g f l i k with h | ⟨h, _⟩
  · rw [h]; exact hg i
  · rw [h]; exact hf i

/-- A disk. -/
structure DkS where
  now : Nat → ByteArray
  kept : Nat → ByteArray
  ws : List (Nat × ByteArray)
  pw : Option Nat
def dk0 : DkS := ⟨fun _ => zeroS, fun _ => zeroS, [], none⟩

/-- A disk of n sectors as it should be. -/
structure DkOk (n : Nat) (D : DkS) : Prop where
  now : ∀ i, (D.now i).size = 64
  kept : ∀ i, (D.kept i).size = 64
  ws : ∀ x ∈ D.ws, x.1 < n ∧ x.2.size = 64
  is : D.now = kfS allS D.kept D.ws D.ws.length
  few : D.ws.length ≤ 1000

/-- What an act takes of the power; none: there is none left. -/
def spS : Option Nat → Option (Option Nat)
  | none => some none
  | some 0 => none
  | some (k + 1) => some (some k)

def writeS (D : DkS) (i : Nat) (s : ByteArray) (p : Option Nat) : DkS := ⟨updS D.now i (padS s), D.kept, D.ws ++ [(i, padS s)], p⟩
def flushS (D : DkS) (p : Option Nat) : DkS := ⟨D.now, D.now, [], p⟩
def crashS (D : DkS) (b : Nat → Bool) : DkS := ⟨kfS b D.kept D.ws D.ws.length, kfS b D.kept D.ws D.ws.length, [], none⟩

theorem dk0_ok (n : Nat) : DkOk n dk0 := ⟨fun _ => zeroS_size, fun _ => zeroS_size, fun x hx => (by cases hx), rfl, by simp [dk0]⟩
theorem DkOk.write {n : Nat} {D : DkS} (h : DkOk n D) (i : Nat) (s : ByteArray) (p : Option Nat) (hi : i < n) (hs : s.size ≤ 64) (hf : D.ws.length < 1000) : DkOk n (writeS D i s p) := by
  refine ⟨fun j => ?_, h.kept, fun x hx => ?_, ?_, ?_⟩
  · show (updS D.now i (padS s) j).size = 64
    unfold updS
    split
    · exact padS_size s hs
    · exact h.now j
  · rcases List.mem_append.1 hx with hx | hx
    · exact h.ws x hx
    · rw [List.mem_singleton.1 hx]; exact ⟨hi, padS_size s hs⟩
  · show updS D.now i (padS s) = kfS allS D.kept (D.ws ++ [(i, padS s)]) (D.ws ++ [(i, padS s)]).length
    rw [kfS_last, ← h.is]
  · show (D.ws ++ [(i, padS s)]).length ≤ 1000
    rw [List.length_append, List.length_singleton]; omega
theorem DkOk.flush {n : Nat} {D : DkS} (h : DkOk n D) (p : Option Nat) : DkOk n (flushS D p) := ⟨h.now, h.now, fun x hx => (by cases hx), rfl, by simp [flushS]⟩
theorem DkOk.crash {n : Nat} {D : DkS} (h : DkOk n D) (b : Nat → Bool) : DkOk n (crashS D b) :=
  ⟨fun i => kfS_size h.kept (fun x hx => (h.ws x hx).2) _ i (Nat.le_refl _), fun i => kfS_size h.kept (fun x hx => (h.ws x hx).2) _ i (Nat.le_refl _), fun x hx => (by cases hx), rfl, by simp [crashS]⟩
theorem DkOk.power {n : Nat} {D : DkS} (h : DkOk n D) (p : Option Nat) : DkOk n { D with pw := p } := ⟨h.now, h.kept, h.ws, h.is, h.few⟩
/-- A crash, as the program does it. -/
theorem crash_now {n : Nat} {D : DkS} (h : DkOk n D) (b : Nat → Bool) : nfS (kfS b D.kept D.ws D.ws.length) D.now D.ws D.ws.length = kfS b D.kept D.ws D.ws.length := by
  funext i
  rcases nfS_is (kfS b D.kept D.ws D.ws.length) D.now D.ws i D.ws.length with e | ⟨e, h2⟩
  · exact e
  · rw [e, kfS_far b _ _ _ _ h2, h.is, kfS_far allS _ _ _ _ h2]

/-- An act. -/
structure ActV where
  kind : ByteArray
  N : Int
  S : ByteArray
  ks : Option Addr
  kn : Nat
  kc : Nat
  kb : Nat → Bool

def kWrite : ByteArray := ⟨#[119, 114, 105, 116, 101]⟩
def kFlush : ByteArray := ⟨#[102, 108, 117, 115, 104]⟩
def kFail : ByteArray := ⟨#[102, 97, 105, 108]⟩
def kCrash : ByteArray := ⟨#[99, 114, 97, 115, 104]⟩
/-- Which of the waiting writes are kept. -/
def keptB (k : Nat) (b : Nat → Bool) : Nat → Bool := fun i => decide (i < k) && b i

/-- An act's error number, and the disk behind it. -/
def stepS (n : Nat) (D : DkS) (x : ActV) : Nat × DkS :=
  if x.kind = kWrite then
    if x.N < 0 ∨ (n : Int) ≤ x.N then (2, D)
    else if 64 < x.S.size then (3, D)
    else match spS D.pw with
      | none => (9, D)
      | some p => (0, writeS D x.N.toNat x.S p)
  else if x.kind = kFlush then
    match spS D.pw with
      | none => (9, D)
      | some p => (0, flushS D p)
  else if x.kind = kFail then
    if x.N < 0 then (2, D) else (0, { D with pw := some x.N.toNat })
  else if x.kind = kCrash then (0, crashS D (keptB x.kn x.kb))
  else (0, D)
end Go.Proofs.YthkecbgifajmmaaDoor
