/- Walk: the shortest of three ways. What is packed, by any way, is read back. Plain. Matches, plainly: paths of tokens through a text; the fewest; the longest match each time makes at most twice as many. No Go stands here. Chains of places with the same three bytes, plainly: the longest match by them. No Go stands here. A map of the call's own whose keys are three bytes. -/
import Derived.Test.YtfeljhikeddodaeGreatDoorMg23
import Derived.Test.YtfeljhikeddodaeGreatDoorMg26
import Derived.Test.YtfeljhikeddodaeGreatDoorMg21
import Derived.Test.YtfeljhikeddodaeGreatDoorMg1
import Derived.Maps.Own
import Derived.Maps.OwnSet
import Derived.Maps.Views
import Derived.DeepKeys4
namespace Go.Proofs.YtfeljhikeddodaeGreatDoor
open Go.RowKit Ps Nf Pm Cn

set_option maxHeartbeats 4000000 in
set_option maxRecDepth 100000 in
theorem shortest_any (g : Nat) (s : ByteArray) (ao : Option Addr) (n cap : Nat) (w : World) (P : ByteArray → Prop) (tx : ByteArray) (hP : P tx)
    (k0 : w.cell? ⟨g, 0, none⟩ = some (.func (.func 30) #[] #[])) (k1 : w.cell? ⟨g, 1, none⟩ = some (.func (.func 18) #[] #[])) (k2 : w.cell? ⟨g, 2, none⟩ = some (.func (.func 19) #[] #[]))
    (h0 : ∀ w', Below w.heap.size w w' → Calls Tryz.prog 30 #[.string s, .slice ao n cap] w' fun e w'' => e = .returned (.string tx) ∧ Below w'.heap.size w' w'')
    (h1 : ∀ w', Below w.heap.size w w' → Calls Tryz.prog 18 #[.string s, .slice ao n cap] w' fun e w'' => ∃ x, e = .returned (.string x) ∧ P x ∧ Below w'.heap.size w' w'')
    (h2 : ∀ w', Below w.heap.size w w' → Calls Tryz.prog 19 #[.string s, .slice ao n cap] w' fun e w'' => ∃ x, e = .returned (.string x) ∧ P x ∧ Below w'.heap.size w' w'') :
    Calls Tryz.prog 45 #[.slice (some ⟨g, 0, none⟩) 3 3, .string s, .slice ao n cap] w fun e w' => ∃ x, e = .returned (.string x) ∧ P x ∧ x.size ≤ tx.size ∧ Below w.heap.size w w' := by
  have hgl := World.block_lt_of_cell? _ _ k0
  simp only at hgl
  have HC : Hid (∀ w', Below w.heap.size w w' → w'.cell? ⟨g, 0, none⟩ = some (.func (.func 30) #[] #[]) ∧ w'.cell? ⟨g, 1, none⟩ = some (.func (.func 18) #[] #[]) ∧ w'.cell? ⟨g, 2, none⟩ = some (.func (.func 19) #[] #[])) := fun w' hb => ⟨(hb.cell (p := ⟨g, 0, none⟩) hgl).trans k0, (hb.cell (p := ⟨g, 1, none⟩) hgl).trans k1, (hb.cell (p := ⟨g, 2, none⟩) hgl).trans k2⟩
  have H0 := hide h0
  have H1 := hide h1
  have H2 := hide h2
  have HP := hide hP
  clear k0 k1 k2 h0 h1 h2 hP
  go_enter Tryz.func45, Tryz.ntmps45
  go_wp2
  go_loopw [7, 13] (fun bv iv wr => ∃ (i : Nat) (B : ByteArray), i ≤ 3 ∧ iv = .int .i64 (i : Int) ∧ bv = .string B ∧ Hid (i = 0 ∨ (P B ∧ B.size ≤ tx.size)) ∧ Hid (Below w.heap.size w wr)) (fun _ iv _ => 3 - (intOf iv).toNat)
  case atStart => exact ⟨0, ⟨#[]⟩, by omega, rfl, rfl, .inl rfl, Below.refl _ _⟩
  case round =>
    obtain ⟨i, B, hi, rfl, rfl, HR, HB⟩ := hrel
    obtain ⟨c0, c1, c2⟩ := unhide HC wr (unhide HB)
    rcases (show i = 0 ∨ i = 1 ∨ i = 2 ∨ i = 3 by omega) with rfl | rfl | rfl | rfl
    · have HX := hide (unhide H0 wr (unhide HB))
      go_wp2_with fail
      refine (unhide HX).mono ?_
      rintro e w1 ⟨rfl, hb1⟩
      have HB1 := hide ((unhide HB).trans (hb1.mono (unhide HB).size))
      clear HX hb1 HB HR c0 c1 c2
      go_wp2
      go_roundw
      case rel => exact ⟨1, tx, by omega, rfl, rfl, .inr ⟨unhide HP, Nat.le_refl _⟩, HB1⟩
      case measure => simp [intOf]
    · have HX := hide (unhide H1 wr (unhide HB))
      go_wp2_with fail
      refine (unhide HX).mono ?_
      rintro e w1 ⟨x, rfl, hx, hb1⟩
      have HB1 := hide ((unhide HB).trans (hb1.mono (unhide HB).size))
      have HPx := hide hx
      have HRr : Hid (P B ∧ B.size ≤ tx.size) := (unhide HR).resolve_left (by omega)
      clear HX hb1 HB HR hx c0 c1 c2
      by_cases hlt : x.size < B.size
      · have d1 : decide ((x.size : Int) < (B.size : Int)) = true := decide_eq_true (by omega)
        have d1n : decide (x.size < B.size) = true := decide_eq_true hlt
        have hix : (x.size : Int) < (B.size : Int) := by omega
        go_wp2
        go_roundw
        case rel => exact ⟨2, x, by omega, rfl, rfl, .inr ⟨unhide HPx, Nat.le_trans (Nat.le_of_lt hlt) (unhide HRr).2⟩, HB1⟩
        case measure => simp [intOf]
      · have d1 : decide ((x.size : Int) < (B.size : Int)) = false := decide_eq_false (by omega)
        have d1n : decide (x.size < B.size) = false := decide_eq_false hlt
        go_wp2
        go_roundw
        case rel => exact ⟨2, B, by omega, rfl, rfl, .inr (unhide HRr), HB1⟩
        case measure => simp [intOf]
    · have HX := hide (unhide H2 wr (unhide HB))
      go_wp2_with fail
      refine (unhide HX).mono ?_
      rintro e w1 ⟨x, rfl, hx, hb1⟩
      have HB1 := hide ((unhide HB).trans (hb1.mono (unhide HB).size))
      have HPx := hide hx
      have HRr : Hid (P B ∧ B.size ≤ tx.size) := (unhide HR).resolve_left (by omega)
      clear HX hb1 HB HR hx c0 c1 c2
      by_cases hlt : x.size < B.size
      · have d1 : decide ((x.size : Int) < (B.size : Int)) = true := decide_eq_true (by omega)
        have d1n : decide (x.size < B.size) = true := decide_eq_true hlt
        have hix : (x.size : Int) < (B.size : Int) := by omega
        go_wp2
        go_roundw
        case rel => exact ⟨3, x, by omega, rfl, rfl, .inr ⟨unhide HPx, Nat.le_trans (Nat.le_of_lt hlt) (unhide HRr).2⟩, HB1⟩
        case measure => simp [intOf]
      · have d1 : decide ((x.size : Int) < (B.size : Int)) = false := decide_eq_false (by omega)
        have d1n : decide (x.size < B.size) = false := decide_eq_false hlt
        go_wp2
        go_roundw
        case rel => exact ⟨3, B, by omega, rfl, rfl, .inr (unhide HRr), HB1⟩
        case measure => simp [intOf]
    · have HRr : Hid (P B ∧ B.size ≤ tx.size) := (unhide HR).resolve_left (by omega)
      go_wp2
      go_ret
      exact ⟨B, rfl, (unhide HRr).1, (unhide HRr).2, unhide HB⟩
end Go.Proofs.YtfeljhikeddodaeGreatDoor
namespace Go.Proofs.YtfeljhikeddodaeGreatDoor
open Go.RowKit Ps Nf Pm Cn

/-- A text that holds bytes, packed. -/
def Pk (l : List UInt8) (x : ByteArray) : Prop := ∃ ps, x = textP ps ∧ Fit ps ∧ len ps ≤ 2000000 ∧ ∀ V nb most, l.length ≤ most → At V nb 0 ps → infl V nb most = some (.ok (len ps) l)
theorem dynP_fit {t : Tks} {n ns nd nc : Nat} {l0 l1 l2 : Nat → Nat} {ss : List Sp} (h : DynOf t n ns nd nc l0 l1 l2 ss) (hs : ∀ i, i < n → t.shaped i) (hb : ∀ i, i < n → t.b i < 256) : Fit (dynP ns nd nc l0 l1 l2 ss t n) := by
  unfold dynP
  exact Fit.append (Fit.cons (by decide) (Fit.cons (by decide) Fit.nil)) (Fit.append h.hd.fit (Fit.append (preP_fit (fun i hi => Tks.tok (hs i hi) (hb i hi))) (Fit.cons (word_fit _ _ _) Fit.nil)))
theorem dynP_len {t : Tks} {n ns nd nc : Nat} {l0 l1 l2 : Nat → Nat} {ss : List Sp} (h : DynOf t n ns nd nc l0 l1 l2 ss) (hs : ∀ i, i < n → t.shaped i) (hb : ∀ i, i < n → t.b i < 256) : len (dynP ns nd nc l0 l1 l2 ss t n) ≤ 48 * n + 5100 := by
  unfold dynP
  have h1 : len (preP (word l1 286) (word l2 30) t.b (fun i => (t.l i).toNat) (fun i => (t.d i).toNat) n) ≤ 48 * n := preP_len h.b1.cod.le h.b2.cod.le (fun i hi => Tks.tok (hs i hi) (hb i hi)) h.uses
  have h2 : len [word l1 286 256] = l1 256 := by simp [len, word]
  have h3 := h.b1.le 256 (by omega)
  have h4 := hd_len h.hd
  rw [len_append, len_append, len_append, h2]
  show 3 + _ ≤ _
  omega
theorem pk_dyn {t : Tks} {n ns nd nc : Nat} {l0 l1 l2 : Nat → Nat} {ss : List Sp} (h : DynOf t n ns nd nc l0 l1 l2 ss) (hg : ∀ i, i < n → t.good i) (hb : ∀ i, i < n → t.b i < 256) (hn : n ≤ 20000) : Pk (t.out n) (textP (dynP ns nd nc l0 l1 l2 ss t n)) := by
  have hl := dynP_len h (fun i hi => (hg i hi).1) hb
  exact ⟨_, rfl, dynP_fit h (fun i hi => (hg i hi).1) hb, by omega, fun V nb most hm hat => infl_dyn h.hd h.cds (fun i hi => (hg i hi).1) hb (fun i hi => (hg i hi).2) h.uses hm hat⟩
theorem fixP_fit2 {t : Tks} {n : Nat} (h : ∀ i, i < n → t.shaped i) (hb : ∀ i, i < n → t.b i < 256) : Fit (fixP t n) := by
  unfold fixP
  exact Fit.append (Fit.cons (by decide) (Fit.cons (by decide) Fit.nil)) (Fit.append (preP_fit (fun i hi => Tks.tok (h i hi) (hb i hi))) (Fit.cons (word_fit _ _ _) Fit.nil))
theorem fixP_len2 {t : Tks} {n : Nat} (h : ∀ i, i < n → t.shaped i) (hb : ∀ i, i < n → t.b i < 256) : len (fixP t n) ≤ 48 * n + 20 := by
  unfold fixP
  have h1 : len (preP (Ps.word fixL 288) (Ps.word fixD 32) t.b (fun i => (t.l i).toNat) (fun i => (t.d i).toNat) n) ≤ 48 * n := preP_len fix_cod.le fixD_cod.le (fun i hi => Tks.tok (h i hi) (hb i hi)) (fun i hi => fix_uses (Tks.tok (h i hi) (hb i hi)))
  have h2 : len [Ps.word fixL 288 256] = fixL 256 := by simp [len, Ps.word]
  have h3 := (fixL_le 256).1
  rw [len_append, len_append, h2]
  show 3 + _ ≤ _
  omega
theorem pk_fix {t : Tks} {n : Nat} (hg : ∀ i, i < n → t.good i) (hb : ∀ i, i < n → t.b i < 256) (hn : n ≤ 20000) : Pk (t.out n) (textP (fixP t n)) := by
  have hl := fixP_len2 (fun i hi => (hg i hi).1) hb
  exact ⟨_, rfl, fixP_fit2 (fun i hi => (hg i hi).1) hb, by omega, fun V nb most hm hat => infl_fixed (fun i hi => (hg i hi).1) hb (fun i hi => (hg i hi).2) hm hat⟩
theorem storP_len (f : Nat) : ∀ l : List UInt8, len (storP l f) ≤ 8 * l.length + 40 * f := by
  induction f with
  | zero => intro l; simp [storP, len]
  | succ f ih =>
    intro l
    unfold storP
    split
    · rw [len_append, stoP_len]
      have := ih (l.drop 65535)
      simp only [List.length_drop, List.length_take] at *
      omega
    · rw [stoP_len]; omega
theorem pk_sto (l : List UInt8) (h : l.length ≤ 100000) : Pk l (textP (storP l (fu l.length))) := by
  have hf := fu_ok l.length (by omega)
  have hl := storP_len (fu l.length) l
  exact ⟨_, rfl, storP_fit _ _, by omega, fun V nb most hm hat => infl_stored hf.1 hf.2.1 hm hat⟩
end Go.Proofs.YtfeljhikeddodaeGreatDoor
namespace Go.Proofs.YtfeljhikeddodaeGreatDoor.Mm

section
variable (s : Nat → Nat) (n W : Nat)

/-- A match of k bytes at this place. -/
def Mt (p k : Nat) : Prop := ∃ f, f < p ∧ p - f ≤ W ∧ k ≤ 258 ∧ p + k ≤ n ∧ ∀ i, i < k → s (f + i) = s (p + i)
/-- One token leads from here to there. -/
def Stp (a b : Nat) : Prop := (a < n ∧ b = a + 1) ∨ ∃ k, 3 ≤ k ∧ Mt s n W a k ∧ b = a + k
inductive Path : Nat → Nat → Nat → Prop where
  | nil (a : Nat) : Path a a 0
  | cons {a b c k : Nat} (h : Stp s n W a b) (t : Path b c k) : Path a c (k + 1)

variable {s n W}

theorem Mt.less {p k k' : Nat} (h : Mt s n W p k) (hk : k' ≤ k) : Mt s n W p k' := by
  obtain ⟨f, h1, h2, h3, h4, h5⟩ := h
  exact ⟨f, h1, h2, by omega, by omega, fun i hi => h5 i (by omega)⟩
/-- Inside a match there is what is left of it. -/
theorem Mt.inside {p k j : Nat} (h : Mt s n W p k) (hj : j ≤ k) : Mt s n W (p + j) (k - j) := by
  obtain ⟨f, h1, h2, h3, h4, h5⟩ := h
  refine ⟨f + j, by omega, by omega, by omega, by omega, fun i hi => ?_⟩
  have := h5 (j + i) (by omega)
  rwa [show f + j + i = f + (j + i) by omega, show p + j + i = p + (j + i) by omega]
theorem Stp.lt {a b : Nat} (h : Stp s n W a b) : a < b ∧ b ≤ n := by
  rcases h with ⟨h1, rfl⟩ | ⟨k, hk, ⟨_, _, _, _, h4, _⟩, rfl⟩ <;> omega
theorem Path.le {a b c : Nat} (h : Path s n W a b c) : a + c ≤ b := by
  induction h with
  | nil => omega
  | cons h _ ih => have := h.lt; omega
theorem Path.last {a b c : Nat} (h : Path s n W a b c) (hc : a < b) : b ≤ n := by
  induction h with
  | nil => omega
  | cons h t ih =>
    have h1 := h.lt
    have := t.le
    rename_i a' b' c' k'
    rcases Nat.lt_or_ge b' c' with q | q
    · exact ih q
    · omega
theorem Path.snoc {a b c k : Nat} (h : Path s n W a b k) (t : Stp s n W b c) : Path s n W a c (k + 1) := by
  induction h with
  | nil => exact .cons t (.nil _)
  | cons h _ ih => exact .cons h (ih t)
theorem Path.append {a b c k l : Nat} (h : Path s n W a b k) (t : Path s n W b c l) : Path s n W a c (k + l) := by
  induction h with
  | nil => rw [Nat.zero_add]; exact t
  | cons h _ ih =>
    rename_i k' _
    rw [show k' + 1 + l = k' + l + 1 by omega]
    exact .cons h (ih t)
/-- Byte by byte. -/
theorem path_bytes (a d : Nat) (h : a + d ≤ n) : Path s n W a (a + d) d := by
  induction d with
  | zero => exact .nil _
  | succ d ih => exact (ih (by omega)).snoc (.inl ⟨by omega, by omega⟩)

/-- The fewest tokens from here to there. -/
def Least (a b c : Nat) : Prop := Path s n W a b c ∧ ∀ c', Path s n W a b c' → c ≤ c'
theorem Least.unique {a b c d : Nat} (h : Least (s := s) (n := n) (W := W) a b c) (g : Least (s := s) (n := n) (W := W) a b d) : c = d :=
  Nat.le_antisymm (h.2 d g.1) (g.2 c h.1)
theorem Path.pos {a b c : Nat} (h : Path s n W a b c) (hab : a < b) : ∃ m c', c = c' + 1 ∧ Stp s n W a m ∧ Path s n W m b c' := by
  cases h with
  | nil => omega
  | cons h t => exact ⟨_, _, rfl, h, t⟩

/-- From the end: the least of one more than each place's that a token leads to. -/
theorem least_back {a b c : Nat} (hab : a < b) (hp : ∃ m c', c = c' + 1 ∧ Stp s n W a m ∧ Least (s := s) (n := n) (W := W) m b c') (hl : ∀ m c', Stp s n W a m → Least (s := s) (n := n) (W := W) m b c' → c ≤ c' + 1) (hx : ∀ m, Stp s n W a m → m ≤ b → ∃ c', Least (s := s) (n := n) (W := W) m b c') : Least (s := s) (n := n) (W := W) a b c := by
  obtain ⟨m, c', rfl, h1, h2⟩ := hp
  refine ⟨.cons h1 h2.1, fun d hd => ?_⟩
  obtain ⟨m2, d', rfl, g1, g2⟩ := hd.pos hab
  obtain ⟨e, he⟩ := hx m2 g1 (by have := g2.le; omega)
  have := hl m2 e g1 he
  have := he.2 d' g2
  omega

/-- A walk that takes the longest match each time, or a byte where there is none. -/
inductive Greedy : Nat → Nat → Prop where
  | nil : Greedy n 0
  | cons {a b k : Nat} (h : a < b) (hb : b ≤ n) (hm : ∀ r, 3 ≤ r → Mt s n W a r → a + r ≤ b) (t : Greedy b k) : Greedy a (k + 1)

theorem Greedy.le {a k : Nat} (h : Greedy (s := s) (n := n) (W := W) a k) : a ≤ n := by
  cases h with
  | nil => exact Nat.le_refl _
  | cons h1 h2 _ _ => omega

/-- It has at most twice as many tokens as any way has. -/
theorem greedy_twice {a e c : Nat} (h : Path s n W a e c) : e = n → ∀ {g k : Nat}, a ≤ g → Greedy (s := s) (n := n) (W := W) g k → k ≤ 2 * c := by
  induction h with
  | nil a =>
    intro he g k hg hG
    subst he
    cases hG with
    | nil => omega
    | cons h1 h2 _ _ => omega
  | @cons a b e c h t ih =>
    intro he g k hg hG
    have ihn := fun {g k : Nat} => ih he (g := g) (k := k)
    rcases Nat.lt_or_ge g b with hgb | hgb
    rotate_left
    · have := ihn hgb hG; omega
    · cases hG with
      | nil => have := h.lt; omega
      | @cons _ g1 k1 h1 h2 hm hG1 =>
        rcases Nat.lt_or_ge g1 b with q | q
        rotate_left
        · have := ihn q hG1; omega
        · -- the next place lies inside the same token, too
          rcases h with ⟨_, rfl⟩ | ⟨m, hm3, hM, rfl⟩
          · omega
          · have hin := hM.inside (j := g - a) (by omega)
            rw [show a + (g - a) = g by omega] at hin
            have hr : m - (g - a) < 3 := by
              rcases Nat.lt_or_ge (m - (g - a)) 3 with z | z
              · exact z
              · have := hm _ z hin; omega
            cases hG1 with
            | nil => omega
            | @cons _ g2 k2 h3 h4 _ hG2 =>
              have := ihn (by omega) hG2
              omega

set_option maxRecDepth 10000 in
/-- A text of one word again and again. -/
theorem repeats_few {L : Nat} (hL : 1 ≤ L) (hW : L ≤ W) (hn : L ≤ n) (hp : ∀ i, i + L < n → s i = s (i + L)) : ∃ c, Path s n W 0 n c ∧ c ≤ L + n / 258 + 2 := by
  have hM : ∀ p k, L ≤ p → k ≤ 258 → p + k ≤ n → Mt s n W p k := fun p k h1 h2 h3 => ⟨p - L, by omega, by omega, h2, h3, fun i hi => by
    have := hp (p - L + i) (by omega)
    rwa [show p - L + i + L = p + i by omega] at this⟩
  have h0 := path_bytes (s := s) (n := n) (W := W) 0 L (by omega)
  rw [Nat.zero_add] at h0
  have hq : ∀ q, L + 258 * q ≤ n → Path s n W L (L + 258 * q) q := by
    intro q
    induction q with
    | zero => intro _; exact .nil _
    | succ q ih =>
      intro hq
      have h1 : Mt s n W (L + 258 * q) 258 := hM (L + 258 * q) 258 (by omega) (by omega) (by omega)
      have h2 : Stp s n W (L + 258 * q) (L + 258 * (q + 1)) := .inr ⟨258, by omega, h1, by omega⟩
      exact (ih (by omega)).snoc h2
  obtain ⟨q, hqd⟩ : ∃ q, q = (n - L) / 258 := ⟨_, rfl⟩
  have hq1 := hq q (by omega)
  have hle : q ≤ n / 258 := by omega
  have hrest : ∃ r, r ≤ 2 ∧ Path s n W (L + 258 * q) n r := by
    obtain ⟨d, hd⟩ : ∃ d, d = n - (L + 258 * q) := ⟨_, rfl⟩
    have hd2 : d < 258 := by omega
    rcases Nat.lt_or_ge d 3 with z | z
    · refine ⟨d, by omega, ?_⟩
      have := path_bytes (s := s) (n := n) (W := W) (L + 258 * q) d (by omega)
      rwa [show L + 258 * q + d = n by omega] at this
    · have h1 : Mt s n W (L + 258 * q) d := hM (L + 258 * q) d (by omega) (by omega) (by omega)
      have h2 : Stp s n W (L + 258 * q) n := .inr ⟨d, z, h1, by omega⟩
      exact ⟨1, by omega, .cons h2 (.nil _)⟩
  obtain ⟨r, hr, hP⟩ := hrest
  exact ⟨L + q + r, (h0.append hq1).append hP, by omega⟩
end
end Go.Proofs.YtfeljhikeddodaeGreatDoor.Mm
namespace Go.Proofs.YtfeljhikeddodaeGreatDoor.Mm

section
variable (s : Nat → Nat) (n W : Nat)

/-- Three bytes at a place. -/
def keyAt (p : Nat) : Nat × Nat × Nat := (s p, s (p + 1), s (p + 2))
/-- One more than the last place ahead of a at which these bytes stand; 0: none. -/
def prev (k : Nat × Nat × Nat) : Nat → Nat
  | 0 => 0
  | a + 1 => if a + 3 ≤ n ∧ keyAt s a = k then a + 1 else prev k a

variable {s n W}

theorem prev_le (k : Nat × Nat × Nat) (a : Nat) : prev s n k a ≤ a := by
  induction a with
  | zero => exact Nat.le_refl _
  | succ a ih => unfold prev; split <;> omega
theorem prev_key {k : Nat × Nat × Nat} {a p : Nat} (h : prev s n k a = p + 1) : p < a ∧ p + 3 ≤ n ∧ keyAt s p = k := by
  induction a with
  | zero => cases h
  | succ a ih =>
    unfold prev at h
    split at h
    · next q => have : p = a := by omega
                subst this; exact ⟨by omega, q.1, q.2⟩
    · have := ih h; exact ⟨by omega, this.2⟩
theorem prev_max {k : Nat × Nat × Nat} {a f : Nat} (h : prev s n k a ≤ f) (hf : f < a) (h3 : f + 3 ≤ n) : keyAt s f ≠ k := by
  induction a with
  | zero => omega
  | succ a ih =>
    unfold prev at h
    split at h
    · omega
    · next q =>
      by_cases e : f = a
      · subst e; exact fun hk => q ⟨h3, hk⟩
      · exact ih h (by omega)

theorem key_of_same {f a k : Nat} (h : ∀ i, i < k → s (f + i) = s (a + i)) (hk : 3 ≤ k) : keyAt s f = keyAt s a := by
  unfold keyAt
  have h0 := h 0 (by omega)
  have h1 := h 1 (by omega)
  have h2 := h 2 (by omega)
  simp only [Nat.add_zero] at h0
  rw [h0, h1, h2]

/-- What a match is, or that there is none. -/
def Good (s : Nat → Nat) (W at_ most length behind : Nat) : Prop := (length = 0 ∧ behind = 0) ∨ (3 ≤ length ∧ length ≤ most ∧ 1 ≤ behind ∧ behind ≤ W ∧ behind ≤ at_ ∧ ∀ i, i < length → s (at_ - behind + i) = s (at_ + i))
/-- No match is longer. -/
def Best (s : Nat → Nat) (W at_ most length : Nat) : Prop := ∀ f, f < at_ → at_ - f ≤ W → ∀ k, k ≤ most → (∀ i, i < k → s (f + i) = s (at_ + i)) → 3 ≤ k → k ≤ length

/-- On the way: places from this one on are looked at. -/
structure Lg (s : Nat → Nat) (n W at_ most place length behind : Nat) : Prop where
  ok : Good s W at_ most length behind
  vis : ∀ f, f < at_ → place ≤ f → at_ - f ≤ W → ∀ k, k ≤ most → (∀ i, i < k → s (f + i) = s (at_ + i)) → 3 ≤ k → k ≤ length
  le : place ≤ at_
  key : ∀ p, place = p + 1 → p < at_ ∧ keyAt s p = keyAt s at_

variable {at_ most place length behind : Nat}

theorem Lg.start (h3 : at_ + 3 ≤ n) : Lg s n W at_ most (prev s n (keyAt s at_) at_) 0 0 :=
  ⟨.inl ⟨rfl, rfl⟩, fun f hf hp _ k _ he hk => absurd (key_of_same he hk) (prev_max hp hf (by omega)), prev_le _ _, fun p hp => ⟨(prev_key hp).1, (prev_key hp).2.2⟩⟩
theorem Lg.done0 (h : Lg s n W at_ most 0 length behind) : Best s W at_ most length := fun f hf hw k hk he h3 => h.vis f hf (Nat.zero_le _) hw k hk he h3
theorem Lg.doneM (hl : length = most) : Best s W at_ most length := fun f _ _ k hk _ _ => by omega
theorem Lg.doneW {p : Nat} (h : Lg s n W at_ most (p + 1) length behind) (hw : W < at_ - p) : Best s W at_ most length := fun f hf hfw k hk he h3 => by
  rcases Nat.lt_or_ge f (p + 1) with q | q
  · omega
  · exact h.vis f hf q hfw k hk he h3
/-- The next place of the chain, where this one has no longer match. -/
theorem Lg.next {p length' behind' : Nat} (h : Lg s n W at_ most (p + 1) length behind) (h3 : at_ + 3 ≤ n) (hl : length ≤ length') (hok : Good s W at_ most length' behind') (hp : ∀ k, k ≤ most → (∀ i, i < k → s (p + i) = s (at_ + i)) → 3 ≤ k → k ≤ length') :
    Lg s n W at_ most (prev s n (keyAt s p) p) length' behind' := by
  obtain ⟨h1, h2⟩ := h.key p rfl
  refine ⟨hok, fun f hf hpl hw k hk he hk3 => ?_, ?_, fun q hq => ?_⟩
  · rcases Nat.lt_or_ge f p with c | c
    · have := prev_max hpl c (by omega)
      exact absurd ((key_of_same he hk3).trans h2.symm) this
    · rcases Nat.eq_or_lt_of_le c with c | c
      · subst c; exact hp k hk he hk3
      · have := h.vis f hf (by omega) hw k hk he hk3; omega
  · have := prev_le (s := s) (n := n) (keyAt s p) p; omega
  · have := prev_key hq; exact ⟨by omega, this.2.2.trans h2⟩
/-- Bytes that are the same, as many as there are. -/
def IsCl (s : Nat → Nat) (a b most m : Nat) : Prop := m ≤ most ∧ (∀ i, i < m → s (a + i) = s (b + i)) ∧ (m < most → s (a + m) ≠ s (b + m))
theorem IsCl.max {a b m k : Nat} (h : IsCl s a b most m) (hk : k ≤ most) (he : ∀ i, i < k → s (a + i) = s (b + i)) : k ≤ m := by
  rcases Nat.lt_or_ge m k with c | c
  · exact absurd (he m c) (h.2.2 (by omega))
  · exact c
end
end Go.Proofs.YtfeljhikeddodaeGreatDoor.Mm
namespace Go.Proofs.YtfeljhikeddodaeGreatDoor
open Go.RowKit Go.Maps

theorem laidOut3 : laidOutB Tryz.prog = true := by kernel_rfl
theorem keyed3 : Keyed Tryz.prog 67 := Keyed.of_law (deep_law_laid laidOut3 (m := 2) (by omega) (of_decide_eq_true (by kernel_rfl)) (by kernel_rfl) (by rw [Tryz.underlying67]))
def keyV (x y z : Nat) : Value := .agg #[.int .u8 (x : Int), .int .u8 (y : Int), .int .u8 (z : Int)]
theorem cells3 : Tryz.prog.cellsOf 67 = 3 := by kernel_rfl
theorem cells1 : Tryz.prog.cellsOf 5 = 1 := by kernel_rfl
theorem keyT3 : Tryz.prog.keyType 67 = true := by kernel_rfl
theorem key3 (x y z : Nat) (hx : x < 256) (hy : y < 256) (hz : z < 256) : ∃ kl, keyOf Tryz.prog 67 (keyV x y z) = some kl := by
  have hf : (keyV x y z).formed Tryz.prog 67 = true := by simp [keyV, Value.formed, Tryz.underlying67, cells3]
  unfold keyOf
  rw [Tryz.underlying67]
  simp only [keyT3, hf, Bool.and_self, if_true]
  obtain ⟨m, hm⟩ : ∃ m, Tryz.prog.types.size = m + 1 := ⟨Tryz.prog.types.size - 1, by
    have : 0 < Tryz.prog.types.size := of_decide_eq_true (by kernel_rfl)
    omega⟩
  rw [hm]
  have wf8 : ∀ x : Nat, x < 256 → (Lit.int .u8 (x : Int)).wf = true := fun x hx => by
    have key : ∀ x : Fin 256, (Lit.int .u8 ((x.val : Nat) : Int)).wf = true := by decide +kernel
    exact key ⟨x, hx⟩
  have hr : List.range 3 = [0, 1, 2] := rfl
  simp [Program.keyLits, Tryz.underlying67, Tryz.underlying5, keyV, Value.cells, cells1, cells3, hr, wf8 x hx, wf8 y hy, wf8 z hz]

/-- The map at block bm tells f. -/
def LM (w : World) (bm nn : Nat) (f : Nat → Nat → Nat → Nat) : Prop :=
  ∃ D : DataW Unit, w.ownsMap Tryz.prog 67 (plainElem Tryz.prog 3) bm nn D ∧ ∀ x y z, x < 256 → y < 256 → z < 256 → ∀ kl, keyOf Tryz.prog 67 (keyV x y z) = some kl → D.atKey kl (.lit (.int .i64 0)) = .lit (.int .i64 (f x y z : Nat))

theorem LM.made (w : World) : LM (w.alloc (.map #[] 0)) w.heap.size 0 (fun _ _ _ => 0) := ⟨.map [], World.ownsMap_made _ _ _ _, fun _ _ _ _ _ _ _ _ => rfl⟩
theorem LM.kept {w w' : World} {bm nn : Nat} {f : Nat → Nat → Nat → Nat} {row : Option Nat} (h : LM w bm nn f) (hg : w.grownBy w' row) (hne : some bm ≠ row) : LM w' bm nn f := by
  obtain ⟨D, h1, h2⟩ := h
  exact ⟨D, h1.kept hg hne, h2⟩
theorem LM.lt {w : World} {bm nn : Nat} {f : Nat → Nat → Nat → Nat} (h : LM w bm nn f) : bm < w.heap.size := by
  obtain ⟨D, h1, _⟩ := h
  exact h1.lt
theorem LM.look {w : World} {bm nn : Nat} {f : Nat → Nat → Nat → Nat} (h : LM w bm nn f) (x y z : Nat) (hx : x < 256) (hy : y < 256) (hz : z < 256) :
    (Instr.lookup 59 (.map (some bm)) (keyV x y z) false).run Tryz.prog w = .ok (.int .i64 (f x y z : Nat)) w := by
  obtain ⟨D, h1, h2⟩ := h
  obtain ⟨kl, hk⟩ := key3 x y z hx hy hz
  obtain ⟨c, hrun, hat, _⟩ := h1.lookup_int keyed3 Tryz.underlying59 Tryz.underlying3 (by kernel_rfl) hk
  have := (h2 x y z hx hy hz kl hk).symm.trans hat
  simp only [DataW.lit.injEq, Lit.int.injEq, true_and] at this
  rw [hrun, ← this]
theorem LM.put {w : World} {bm nn : Nat} {f : Nat → Nat → Nat → Nat} (h : LM w bm nn f) (x y z v : Nat) (hx : x < 256) (hy : y < 256) (hz : z < 256) (hv : v ≤ 1000000) (hn : nn ≤ 1000000) :
    ∃ w', (Instr.mapUpdate 59 (.map (some bm)) (keyV x y z) (.int .i64 (v : Int))).run Tryz.prog w = .ok () w' ∧ LM w' bm (nn + 1) (fun a b c => if a = x ∧ b = y ∧ c = z then v else f a b c) ∧ w.grownBy w' (some bm) := by
  obtain ⟨D, h1, h2⟩ := h
  obtain ⟨kl, hk⟩ := key3 x y z hx hy hz
  have hwf : (Lit.int .i64 (v : Int)).wf = true := by
    have h0 : IntKind.i64.min = -9223372036854775808 := by decide
    have h9 : IntKind.i64.max = 9223372036854775807 := by decide
    simp only [Lit.wf, h0, h9, Bool.and_eq_true, decide_eq_true_eq]
    omega
  obtain ⟨w', hrun, hm, hg⟩ := h1.update keyed3 Tryz.underlying59 (by unfold maxLen; omega) hk (plainElem_int Tryz.underlying3 hwf)
  refine ⟨w', hrun, ⟨_, hm, fun a b c ha hb hc kl' hk' => ?_⟩, hg⟩
  show _ = DataW.lit (Lit.int .i64 (((if a = x ∧ b = y ∧ c = z then v else f a b c) : Nat) : Int))
  by_cases e : a = x ∧ b = y ∧ c = z
  · obtain ⟨rfl, rfl, rfl⟩ := e
    obtain rfl := Option.some.inj (hk.symm.trans hk')
    rw [atKey_put_same h1.isMap (keyed3.key hk), if_pos ⟨rfl, rfl, rfl⟩]
  · rw [if_neg e, atKey_put_other (fun q => e ?_)]
    · exact h2 a b c ha hb hc kl' hk'
    · subst q
      have := keyed3.inj hk' hk
      simp only [keyV, Value.agg.injEq, Array.mk.injEq, List.cons.injEq, Value.int.injEq, true_and, and_true] at this
      omega
end Go.Proofs.YtfeljhikeddodaeGreatDoor
