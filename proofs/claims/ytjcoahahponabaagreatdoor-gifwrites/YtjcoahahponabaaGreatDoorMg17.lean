/- Rows of bytes of a call's own, marked by a conversion or not. Rows of bytes that are made (cut out of Pe5). Colors and how often each is used. Plain. Rows of colors and how often each is used. Rows of numbers (cut out of Cu7). -/
import Derived.Test.YtjcoahahponabaaGreatDoorMg2
import Derived.Test.YtjcoahahponabaaGreatDoorMg4
import Derived.Test.YtjcoahahponabaaGreatDoorMg3
import Derived.Deep.AppendSrc
import Derived.Deep.MidRow
import Derived.Deep.OwnRows
import Derived.Test.YtjcoahahponabaaGreatDoorMg1
import Derived.Test.YtjcoahahponabaaGreatDoorTk1
namespace Go.Proofs.YtjcoahahponabaaGreatDoor
open Go.RowKit

/-- A row of bytes of a call's own, whose cells may be written. -/
structure OwnM (w : World) (base : Nat) (v : Value) (l : List UInt8) : Prop where
  ex : ∃ g cap, v = .slice (some ⟨g, 0, none⟩) l.length cap ∧ base ≤ g ∧ g < w.heap.size ∧ l.length ≤ cap ∧ cap ≤ maxLen ∧
    (∀ j, j < cap → (w.cell? ⟨g, j, none⟩).isSome = true ∧ w.frozen? ⟨g, j, none⟩ = false) ∧ ∀ j (h : j < l.length), w.cell? ⟨g, j, none⟩ = some (.int .u8 (l[j].toNat : Int))

theorem But_setCells (g : Nat) : ∀ (vs : List Value) (o : Nat) (w : World), But (· = g) w (w.setCells g o vs)
  | [], _, w => But.refl _ w
  | v :: r, o, w => ((But.refl (· = g) w).setCell (p := ⟨g, o, none⟩) rfl v).trans (But_setCells g r (o + 1) (w.setCell ⟨g, o, none⟩ v))

theorem byteCells_is (s : ByteArray) : byteCells s = byteVals s.data.toList := rfl

theorem appMs (w : World) (base : Nat) (v : Value) (l m : List UInt8) (tx ty : TypeId) (x : Value) (hsrc1 : Src Tryz.prog 1 tx x m.length (byteVals m) w) (h : OwnM w base v l) (hl : l.length + m.length ≤ 4000000) (hb : base ≤ w.heap.size) :
    ∃ v' w', (Builtin.append_ #[107, tx] ty #[v, x]).run Tryz.prog w = .ok v' w' ∧ OwnM w' base v' (l ++ m) ∧ w.grownBy w' v.ownBlock ∧ (v'.ownBlock = v.ownBlock ∨ v'.ownBlock = some w.heap.size) := by
  obtain ⟨g, cap, rfl, hg, hgl, hlc, hcm, hfree, hcell⟩ := h.ex
  obtain ⟨i, hi, hz0, hz1, hz2⟩ := info_parts info_u8
  have hsrc : Src Tryz.prog i.size tx x m.length (byteVals m) w := by rw [hz1]; exact hsrc1
  have hbl : (byteVals m).length = m.length := byteVals_length m
  have hmax : (4000000 : Nat) ≤ maxLen := by unfold maxLen; omega
  by_cases hroom : l.length + m.length ≤ cap
  · have hc : ∀ j, j < (byteVals m).length → (w.cell? ⟨g, 0 + l.length * i.size + j, none⟩).isSome = true := fun j hj => by
      rw [hz1, Nat.zero_add, Nat.mul_one]
      exact (hfree _ (by omega)).1
    have hr := run_append_room_src (P := Tryz.prog) w 107 tx ty 5 i Tryz.underlying107 hi g 0 l.length cap x m.length (byteVals m) hsrc hroom hc
      (fun j hj => by rw [hz1, Nat.zero_add, Nat.mul_one]; exact (hfree _ (by omega)).2)
    rw [hz1, Nat.zero_add, Nat.mul_one] at hr hc
    have hbut := But_setCells g (byteVals m) l.length w
    refine ⟨_, _, hr, ⟨⟨g, cap, by rw [List.length_append], hg, Nat.lt_of_lt_of_le hgl hbut.size, by rw [List.length_append]; exact hroom, hcm, fun j hj => ⟨?_, ?_⟩, fun j hj => ?_⟩⟩, hbut.grownBy, .inl rfl⟩
    · exact World.isSome_setCells g (byteVals m) l.length w _ (hfree j hj).1
    · rw [World.frozen?_setCells]; exact (hfree j hj).2
    · rw [List.length_append] at hj
      rcases Nat.lt_or_ge j l.length with q | q
      · rw [World.cell?_setCells_out g _ _ _ _ (fun _ _ => .inl q), List.getElem_append_left q]
        exact hcell j q
      · have := World.cell?_setCells_in g (byteVals m) l.length w hc (j - l.length) (by omega)
        rw [show l.length + (j - l.length) = j by omega] at this
        rw [this, List.getElem_append_right q]
        simp [byteVals]
  · have holds : (Builtin.firstCells i.size l.length (.slice (some ⟨g, 0, none⟩) l.length cap)).run Tryz.prog w.drew = .ok (byteVals l).toArray w.drew := by
      rw [hz1]
      refine run_firstCells_some w.drew 1 l.length ⟨g, 0, none⟩ l.length cap (byteVals l) (by rw [byteVals_length, Nat.mul_one]) (fun j u hu => ?_)
      rw [byteVals_at] at hu
      have hj : j < l.length := by
        rcases Nat.lt_or_ge j l.length with q | q
        · exact q
        · rw [List.getElem?_eq_none q] at hu; cases hu
      rw [List.getElem?_eq_getElem hj] at hu
      rw [addr_add, Nat.zero_add]
      exact (hcell j hj).trans hu
    have hr := run_append_grow_src (P := Tryz.prog) w 107 tx ty 5 i (.int .u8 0) Tryz.underlying107 hi hz0 (some ⟨g, 0, none⟩) l.length cap (byteVals l) holds x m.length (byteVals m) hsrc (by omega) (by omega) (by rw [hz2]; exact growslice_fits (by omega) (by omega))
    have hge := grownCap_ge w (l.length + m.length) cap 5
    have hcm2 : grownCap w (l.length + m.length) cap 5 ≤ maxLen := grownCap_le_maxLen w (l.length + m.length) cap 5 (by omega)
    have hnew := heap_alloc_new w.drew (.cells ((byteVals l ++ byteVals m).toArray ++ Builtin.zeroCells (Value.int .u8 0).cells (grownCap w (l.length + m.length) cap 5 - (l.length + m.length))) 5)
    have hsz : ((byteVals l ++ byteVals m).toArray ++ Builtin.zeroCells (Value.int .u8 0).cells (grownCap w (l.length + m.length) cap 5 - (l.length + m.length))).size = grownCap w (l.length + m.length) cap 5 := by
      have hz1' : (Value.int IntKind.u8 0).cells.size = 1 := rfl
      simp only [Array.size_append, List.size_toArray, List.length_append, size_zeroCells, hz1', byteVals_length, hbl]
      omega
    refine ⟨_, _, hr, ⟨⟨w.heap.size, _, by rw [List.length_append], hb, by simp, by rw [List.length_append]; exact hge, hcm2, fun j hj => ⟨?_, ?_⟩, fun j hj => ?_⟩⟩, ⟨rfl, rfl, rfl, by simp, fun k hk _ => Below.heap_alloc w.drew _ k hk⟩, .inr rfl⟩
    · show ((w.drew.alloc _).cell? ⟨w.drew.heap.size, j, none⟩).isSome = true
      simp only [World.cell?, hnew]
      have hj2 : j < ((byteVals l ++ byteVals m).toArray ++ Builtin.zeroCells (Value.int .u8 0).cells (grownCap w (l.length + m.length) cap 5 - (l.length + m.length))).size := by rw [hsz]; exact hj
      simp only [Array.getElem?_eq_getElem hj2]
      rfl
    · show (w.drew.alloc _).frozen? ⟨w.drew.heap.size, j, none⟩ = false
      simp only [World.frozen?, hnew]
      simp
    · show (w.drew.alloc _).cell? ⟨w.drew.heap.size, j, none⟩ = _
      simp only [World.cell?, hnew]
      rw [List.length_append] at hj
      have e : (byteVals l ++ byteVals m) = byteVals (l ++ m) := by rw [byteVals_append]
      rw [e, Array.getElem?_append_left (by simp [byteVals_length]; omega)]
      have hj3 : j < (l ++ m).length := by rw [List.length_append]; exact hj
      simp only [List.getElem?_toArray, byteVals_at, List.getElem?_eq_getElem hj3]
      rfl

/-- .. a text behind it; .. bytes out of a block. -/
theorem appM (w : World) (base : Nat) (v : Value) (l : List UInt8) (y : ByteArray) (ty : TypeId) (h : OwnM w base v l) (hl : l.length + y.size ≤ 4000000) (hb : base ≤ w.heap.size) :
    ∃ v' w', (Builtin.append_ #[107, 9] ty #[v, .string y]).run Tryz.prog w = .ok v' w' ∧ OwnM w' base v' (l ++ y.data.toList) ∧ w.grownBy w' v.ownBlock ∧ (v'.ownBlock = v.ownBlock ∨ v'.ownBlock = some w.heap.size) :=
  appMs w base v l y.data.toList 9 ty (.string y) (by
    have := Src.ofString (P := Tryz.prog) w Tryz.underlying9 y
    rwa [show y.size = y.data.toList.length from Array.length_toList.symm] at this) h (by rw [show y.data.toList.length = y.size from Array.length_toList]; exact hl) hb
theorem appMn (w : World) (base q : Nat) (v : Value) (l m : List UInt8) (ty : TypeId) (hq : ∀ j u, (byteVals m)[j]? = some u → w.cell? ⟨q, j, none⟩ = some u) (h : OwnM w base v l) (hl : l.length + m.length ≤ 4000000) (hb : base ≤ w.heap.size) :
    ∃ v' w', (Builtin.append_ #[107, 107] ty #[v, .slice (some ⟨q, 0, none⟩) m.length m.length]).run Tryz.prog w = .ok v' w' ∧ OwnM w' base v' (l ++ m) ∧ w.grownBy w' v.ownBlock ∧ (v'.ownBlock = v.ownBlock ∨ v'.ownBlock = some w.heap.size) :=
  appMs w base v l m 107 ty _ (Src.ofSlice (P := Tryz.prog) w Tryz.underlying107 ⟨q, 0, none⟩ m.length m.length (byteVals m) (by rw [byteVals_length, Nat.mul_one]) (fun j u hj => by rw [addr_add, Nat.zero_add]; exact hq j u hj) (fun u hu => by
    obtain ⟨b, _, rfl⟩ := List.mem_map.1 hu
    rfl)) h hl hb
theorem wpList_appMn (w : World) {ops : Array Oper} {rest : List Oper} {o : Oper} {a : Act} {Q : Exit → Act → World → Prop} (hgd : o.guard = none) (s x : Operand)
    (ho : o.op = .call { callee := .builtin .append, args := #[s, x], argTypes := #[107, 107] }) (base q k : Nat) (v : Value) (l m : List UInt8) (hs : a.eval s = v) (hx : a.eval x = .slice (some ⟨q, 0, none⟩) k k) (hk : m.length = k)
    (hown : OwnM w base v l) (hq : ∀ j u, (byteVals m)[j]? = some u → w.cell? ⟨q, j, none⟩ = some u) (hl : l.length + m.length ≤ 4000000) (hb : base ≤ w.heap.size)
    (h : ∀ v' w', OwnM w' base v' (l ++ m) → w.grownBy w' v.ownBlock → wpList Tryz.prog ops Q rest (a.put o.dst v') w') : wpList Tryz.prog ops Q (o :: rest) a w := by
  subst hk
  obtain ⟨v', w', h1, h2, h3, _⟩ := appMn w base q v l m o.type hq hown hl hb
  refine wpList_plain hgd fun _ hK => ?_
  unfold Oper.wp execOp
  simp only [ho, resolve, invoke, builtin, Sem.run_bind, Sem.run_pure, Result.andThen_ok, List.map_toArray, List.map_cons, List.map_nil, hs, hx, h1]
  exact hK _ _ (h v' w' h2 h3)

theorem wpList_appM (w : World) {ops : Array Oper} {rest : List Oper} {o : Oper} {a : Act} {Q : Exit → Act → World → Prop} (hgd : o.guard = none) (s x : Operand)
    (ho : o.op = .call { callee := .builtin .append, args := #[s, x], argTypes := #[107, 9] }) (base : Nat) (v : Value) (l : List UInt8) (y : ByteArray) (hs : a.eval s = v) (hx : a.eval x = .string y)
    (hown : OwnM w base v l) (hl : l.length + y.size ≤ 4000000) (hb : base ≤ w.heap.size)
    (h : ∀ v' w', OwnM w' base v' (l ++ y.data.toList) → w.grownBy w' v.ownBlock → (v'.ownBlock = v.ownBlock ∨ v'.ownBlock = some w.heap.size) → wpList Tryz.prog ops Q rest (a.put o.dst v') w') : wpList Tryz.prog ops Q (o :: rest) a w := by
  obtain ⟨v', w', h1, h2, h3, h4⟩ := appM w base v l y o.type hown hl hb
  refine wpList_plain hgd fun _ hK => ?_
  unfold Oper.wp execOp
  simp only [ho, resolve, invoke, builtin, Sem.run_bind, Sem.run_pure, Result.andThen_ok, List.map_toArray, List.map_cons, List.map_nil, hs, hx, h1]
  exact hK _ _ (h v' w' h2 h3 h4)

theorem OwnM.shape {w : World} {base : Nat} {v : Value} {l : List UInt8} (h : OwnM w base v l) : ∃ a c, v = .slice a l.length c := by
  obtain ⟨g, cap, rfl, _⟩ := h.ex
  exact ⟨_, _, rfl⟩
theorem OwnM.lt {w : World} {base : Nat} {v : Value} {l : List UInt8} (h : OwnM w base v l) (k : Nat) (e : v.ownBlock = some k) : base ≤ k ∧ k < w.heap.size := by
  obtain ⟨g, cap, rfl, hg, hgl, _⟩ := h.ex
  have : g = k := by simpa [Value.ownBlock] using e
  omega
theorem OwnM.keep {w w' : World} {base : Nat} {v : Value} {l : List UInt8} (h : OwnM w base v l) (hb : ∀ k, v.ownBlock = some k → w'.heap[k]? = w.heap[k]?) (hs : w.heap.size ≤ w'.heap.size) : OwnM w' base v l := by
  obtain ⟨g, cap, rfl, hg, hgl, hlc, hcm, hfree, hcell⟩ := h.ex
  have hk := hb g rfl
  have e1 : ∀ j, w'.cell? ⟨g, j, none⟩ = w.cell? ⟨g, j, none⟩ := fun j => World.cell?_of_block hk
  have e2 : ∀ j, w'.frozen? ⟨g, j, none⟩ = w.frozen? ⟨g, j, none⟩ := fun j => World.frozen?_of_block hk
  exact ⟨⟨g, cap, rfl, hg, by omega, hlc, hcm, fun j hj => by rw [e1, e2]; exact hfree j hj, fun j hj => by rw [e1]; exact hcell j hj⟩⟩
theorem OwnM.below {w w' : World} {base : Nat} {v : Value} {l : List UInt8} (h : OwnM w base v l) (hb : Below w.heap.size w w') : OwnM w' base v l :=
  h.keep (fun k e => hb.block k (h.lt k e).2) hb.size
theorem OwnM.text {w : World} {base : Nat} {v : Value} {l : List UInt8} (h : OwnM w base v l) : (convert 107 9 v).run Tryz.prog w = .ok (.string ⟨l.toArray⟩) w := by
  obtain ⟨g, cap, rfl, hg, hgl, hlc, hcm, hfree, hcell⟩ := h.ex
  refine run_convert_bytes_back w 107 9 5 _ cap l Tryz.underlying107 Tryz.underlying5 Tryz.underlying9 (fun j hj => ?_)
  rw [addr_add, Nat.zero_add]
  exact hcell j hj

/-- The bytes of a text, in memory. -/
theorem to_bytesM (w : World) (s : ByteArray) (hl : s.size ≤ maxLen) : ∃ v w2, (convert 9 107 (.string s)).run Tryz.prog w = .ok v w2 ∧ OwnM w2 w.heap.size v s.data.toList ∧ Below w.heap.size w w2 := by
  have h := run_bytes_of_string (P := Tryz.prog) w 9 107 5 s Tryz.underlying9 Tryz.underlying107 Tryz.underlying5
  have hz : (bytesRow s (grownCap w s.size 0 5)).size = grownCap w s.size 0 5 := by
    have := grownCap_ge w s.size 0 5
    simp [bytesRow]
    omega
  have hnew := heap_alloc_new w.drew (.cells (bytesRow s (grownCap w s.size 0 5)) 5 ((bytesRow s (grownCap w s.size 0 5)).size, (bytesRow s (grownCap w s.size 0 5)).size + 1))
  have hys : s.data.toList.length = s.size := by simp
  refine ⟨_, _, h, ⟨⟨w.heap.size, grownCap w s.size 0 5, by rw [hys], Nat.le_refl _, by simp, by rw [hys]; exact grownCap_ge _ _ _ _, grownCap_le_maxLen _ _ _ _ hl, fun j hj => ⟨?_, ?_⟩, fun j hj => ?_⟩⟩, (Below.refl _ _).drew.alloc (Nat.le_refl _) _⟩
  · show ((w.drew.alloc _).cell? ⟨w.drew.heap.size, j, none⟩).isSome = true
    simp only [World.cell?, hnew]
    have hj2 : j < (bytesRow s (grownCap w s.size 0 5)).size := by rw [hz]; exact hj
    simp only [Array.getElem?_eq_getElem hj2]
    rfl
  · show (w.drew.alloc _).frozen? ⟨w.drew.heap.size, j, none⟩ = false
    simp only [World.frozen?, hnew]
    simp
    omega
  · show (w.drew.alloc _).cell? ⟨w.drew.heap.size, j, none⟩ = _
    simp only [World.cell?, hnew]
    rw [hys] at hj
    rw [bytesRow_at s _ j hj]
    simp
end Go.Proofs.YtjcoahahponabaaGreatDoor
namespace Go.Proofs.YtjcoahahponabaaGreatDoor
open Go.RowKit

/-- A byte in it is another one. -/
theorem OwnM.put {w : World} {base g cap : Nat} {l : List UInt8} (h : OwnM w base (.slice (some ⟨g, 0, none⟩) l.length cap) l) (i : Nat) (hi : i < l.length) (b : UInt8) : OwnM (w.setCell ⟨g, i, none⟩ (.int .u8 (b.toNat : Int))) base (.slice (some ⟨g, 0, none⟩) l.length cap) (l.set i b) := by
  obtain ⟨g', cap', e, hg, hgl, hlc, hcm, hfree, hcell⟩ := h.ex
  injection e with e1 e2 e3
  injection e1 with e1
  injection e1 with e1
  subst e1
  subst e3
  refine ⟨⟨g, cap, by rw [List.length_set], hg, by simpa [World.setCell] using hgl, by rw [List.length_set]; exact hlc, hcm, fun j hj => ⟨?_, ?_⟩, fun j hj => ?_⟩⟩
  · by_cases e : j = i
    · subst e
      have hc := (hfree j hj).1
      rw [hcell j hi] at hc
      simp [go_sem, hcell j hi]
    · rw [World.cell?_setCell_other _ _ _ _ (fun q => e (by injection q with _ q; exact q.symm))]
      exact (hfree j hj).1
  · have := (hfree j hj).2
    simp [go_sem, this]
  · rw [List.length_set] at hj
    by_cases e : j = i
    · subst e
      simp [go_sem, hcell j hi]
    · rw [World.cell?_setCell_other _ _ _ _ (fun q => e (by injection q with _ q; exact q.symm)), List.getElem_set_ne (fun q => e q.symm)]
      exact hcell j hj

theorem mk_bytes (n : Nat) (hn : n ≤ 4000000) (w : World) : (Instr.makeSlice 107 (.int .i64 (n : Int)) (.int .i64 (n : Int))).run Tryz.prog w = .ok (.slice (some ⟨w.heap.size, 0, none⟩) n n) (w.alloc (.cells (madeCells #[.int .u8 0] n) 5)) :=
  run_make_row' (P := Tryz.prog) 107 5 (.int .u8 0) 1 Tryz.underlying107 info_u8 rfl .i64 .i64 n (by omega) (by omega) w
theorem bytes_made (n : Nat) (hn : n ≤ 4000000) (w : World) : OwnM (w.alloc (.cells (madeCells #[.int .u8 0] n) 5)) w.heap.size (.slice (some ⟨w.heap.size, 0, none⟩) n n) (List.replicate n 0) := by
  have hc : ∀ j, j < n → (madeCells #[.int .u8 0] n)[j]? = some (.int .u8 0) := fun j hj => by
    have e := toList_madeCells_one (.int .u8 0) n
    have : (madeCells #[.int .u8 0] n).toList[j]? = some (.int .u8 0) := by rw [e, List.getElem?_replicate, if_pos hj]
    simpa using this
  refine ⟨⟨w.heap.size, n, by rw [List.length_replicate], Nat.le_refl _, by simp, by simp, by unfold maxLen; omega, fun j hj => ⟨?_, ?_⟩, fun j hj => ?_⟩⟩
  · rw [World.cell?_alloc_mark, hc j hj]
    rfl
  · have hh := heap_alloc_new w (.cells (madeCells #[.int .u8 0] n) 5)
    unfold World.frozen?
    rw [hh]
    simp
  · rw [List.length_replicate] at hj
    rw [World.cell?_alloc_mark, hc j hj]
    simp

end Go.Proofs.YtjcoahahponabaaGreatDoor
namespace Go.Proofs.YtjcoahahponabaaGreatDoor

/-- A color, and how often it is used. -/
structure Us where
  c : Px
  t : Nat
instance : Inhabited Us := ⟨⟨default, 0⟩⟩
/-- How often a pixel is met among the first. -/
def tms (p : Nat → Px) : Nat → Px → Nat
  | 0, _ => 0
  | i + 1, x => tms p i x + if x = p i then 1 else 0
/-- The unlike ones of the first n, with how often they are met among the first i. -/
def cntH (p : Nat → Px) (n i : Nat) : List Us := (ulk p n).map fun x => ⟨x, tms p i x⟩
def ucnt (p : Nat → Px) (n : Nat) : List Us := cntH p n n
theorem cntH_length (p : Nat → Px) (n i : Nat) : (cntH p n i).length = (ulk p n).length := by simp [cntH]
theorem ucnt_length (p : Nat → Px) (n : Nat) : (ucnt p n).length = (ulk p n).length := cntH_length p n n
theorem tms_none (p : Nat → Px) (i : Nat) {x : Px} (h : x ∉ ulk p i) : tms p i x = 0 := by
  induction i with
  | zero => rfl
  | succ i ih =>
    have hx : x ∉ ulk p i := fun q => by
      obtain ⟨r, hr⟩ := ulk_front p (show i ≤ i + 1 by omega)
      exact h (by rw [hr]; exact List.mem_append_left _ q)
    have hn : x ≠ p i := fun q => h (by rw [q]; exact ulk_has p (by omega))
    show tms p i x + (if x = p i then 1 else 0) = 0
    rw [ih hx, if_neg hn]
theorem tms_le (p : Nat → Px) (i : Nat) (x : Px) : tms p i x ≤ i := by
  induction i with
  | zero => exact Nat.le_refl _
  | succ i ih =>
    show tms p i x + (if x = p i then 1 else 0) ≤ i + 1
    split <;> omega
theorem tms_pos (p : Nat → Px) (n : Nat) {x : Px} (h : x ∈ ulk p n) : 1 ≤ tms p n x := by
  induction n with
  | zero => simp [ulk] at h
  | succ n ih =>
    show 1 ≤ tms p n x + (if x = p n then 1 else 0)
    by_cases e : x = p n
    · rw [if_pos e]; omega
    · have : x ∈ ulk p n := by
        have h' : x ∈ addP (ulk p n) (p n) := h
        unfold addP at h'
        split at h'
        · exact h'
        · rcases List.mem_append.1 h' with q | q
          · exact q
          · exact absurd (by simpa using q) e
      have := ih this
      omega
/-- Ahead of the round: as it was, or with one more that is not used yet. -/
theorem cntH_old (p : Nat → Px) (i : Nat) (h : p i ∈ ulk p i) : cntH p (i + 1) i = ucnt p i := by
  have e : ulk p (i + 1) = ulk p i := by show addP _ _ = _; unfold addP; rw [if_pos h]
  unfold ucnt cntH
  rw [e]
theorem cntH_new (p : Nat → Px) (i : Nat) (h : p i ∉ ulk p i) : cntH p (i + 1) i = ucnt p i ++ [⟨p i, 0⟩] := by
  have e : ulk p (i + 1) = ulk p i ++ [p i] := by show addP _ _ = _; unfold addP; rw [if_neg h]
  unfold ucnt cntH
  rw [e, List.map_append]
  show _ ++ [(⟨p i, tms p i (p i)⟩ : Us)] = _
  rw [tms_none p i h]
theorem map_set_at {f g : Px → Us} : ∀ (l : List Px) (x : Px), l.Nodup → x ∈ l → (l.map f).set (l.idxOf x) (g x) = l.map (fun y => if y = x then g y else f y)
  | [], x, _, h => by simp at h
  | y :: l, x, hn, h => by
    rw [List.nodup_cons] at hn
    by_cases e : y = x
    · subst e
      rw [List.idxOf_cons_self]
      show g y :: l.map f = (if y = y then g y else f y) :: l.map _
      rw [if_pos rfl]
      congr 1
      refine List.map_congr_left (fun z hz => ?_)
      rw [if_neg (fun q => hn.1 (by rw [← q]; exact hz))]
    · have hx : x ∈ l := by
        rcases List.mem_cons.1 h with q | q
        · exact absurd q.symm e
        · exact q
      have hb : (y == x) = false := by simpa using e
      rw [List.idxOf_cons, hb]
      show f y :: (l.map f).set (l.idxOf x) (g x) = (if y = x then g y else f y) :: l.map _
      rw [if_neg e, map_set_at l x hn.2 hx]
/-- The round: one more of its like. -/
theorem ucnt_succ (p : Nat → Px) (i : Nat) : (cntH p (i + 1) i).set (nmb p i) ⟨p i, tms p i (p i) + 1⟩ = ucnt p (i + 1) := by
  have hm : p i ∈ ulk p (i + 1) := ulk_has p (by omega)
  have h := map_set_at (f := fun x => (⟨x, tms p i x⟩ : Us)) (g := fun x => (⟨x, tms p i x + 1⟩ : Us)) (ulk p (i + 1)) (p i) (ulk_nodup p _) hm
  unfold cntH nmb
  rw [h]
  unfold ucnt cntH
  refine List.map_congr_left (fun y _ => ?_)
  by_cases e : y = p i
  · rw [if_pos e]
    show (⟨y, tms p i y + 1⟩ : Us) = ⟨y, tms p i y + if y = p i then 1 else 0⟩
    rw [if_pos e]
  · rw [if_neg e]
    show (⟨y, tms p i y⟩ : Us) = ⟨y, tms p i y + if y = p i then 1 else 0⟩
    rw [if_neg e]
    rfl
theorem cntH_at (p : Nat → Px) (i : Nat) : (cntH p (i + 1) i)[nmb p i]? = some ⟨p i, tms p i (p i)⟩ := by
  unfold cntH
  rw [List.getElem?_map, nmb_at p (show i < i + 1 by omega)]
  rfl
theorem cntH_lt (p : Nat → Px) (i : Nat) : nmb p i < (cntH p (i + 1) i).length := by rw [cntH_length]; exact nmb_lt p (by omega)

/-- What is told of all pixels is told of the unlike ones, as often as they are used. -/
def sumN (f : Nat → Nat) : Nat → Nat
  | 0 => 0
  | i + 1 => sumN f i + f i
def sumU (F : Px → Nat) (l : List Us) : Nat := (l.map fun u => F u.c * u.t).sum
theorem sum_idx (F : Px → Nat) (T : Px → Nat) (x : Px) : ∀ l : List Px, l.Nodup → x ∈ l → (l.map fun y => F y * (T y + if y = x then 1 else 0)).sum = (l.map fun y => F y * T y).sum + F x
  | [], _, h => by simp at h
  | y :: l, hn, h => by
    rw [List.nodup_cons] at hn
    by_cases e : y = x
    · subst e
      have h2 : (l.map fun z => F z * (T z + if z = y then 1 else 0)) = l.map fun z => F z * T z := List.map_congr_left (fun z hz => by rw [if_neg (fun q => hn.1 (by rw [← q]; exact hz)), Nat.add_zero])
      rw [List.map_cons, List.map_cons, List.sum_cons, List.sum_cons, h2, if_pos rfl, Nat.mul_add, Nat.mul_one]
      omega
    · have hx : x ∈ l := by
        rcases List.mem_cons.1 h with q | q
        · exact absurd q.symm e
        · exact q
      rw [List.map_cons, List.map_cons, List.sum_cons, List.sum_cons, sum_idx F T x l hn.2 hx, if_neg e, Nat.add_zero]
      omega
theorem sumU_all (F : Px → Nat) (p : Nat → Px) (n : Nat) : sumU F (ucnt p n) = sumN (fun i => F (p i)) n := by
  unfold sumU ucnt cntH
  rw [List.map_map]
  show ((ulk p n).map fun x => F x * tms p n x).sum = _
  induction n with
  | zero => rfl
  | succ n ih =>
    have hs := sum_idx F (tms p n) (p n) (ulk p (n + 1)) (ulk_nodup p _) (ulk_has p (by omega))
    have e1 : ((ulk p (n + 1)).map fun x => F x * tms p (n + 1) x) = (ulk p (n + 1)).map fun y => F y * (tms p n y + if y = p n then 1 else 0) := rfl
    rw [e1, hs]
    show _ = sumN _ n + F (p n)
    rw [← ih]
    congr 1
    by_cases h : p n ∈ ulk p n
    · have e : ulk p (n + 1) = ulk p n := by show addP _ _ = _; unfold addP; rw [if_pos h]
      rw [e]
    · have e : ulk p (n + 1) = ulk p n ++ [p n] := by show addP _ _ = _; unfold addP; rw [if_neg h]
      rw [e, List.map_append, List.sum_append]
      simp [tms_none p n h]
end Go.Proofs.YtjcoahahponabaaGreatDoor
namespace Go.Proofs.YtjcoahahponabaaGreatDoor
open Go.RowKit

def Us.cells (u : Us) : List Value := [.int .u8 (u.c.r.toNat : Int), .int .u8 (u.c.g.toNat : Int), .int .u8 (u.c.b.toNat : Int), .int .u8 (u.c.a.toNat : Int), .int .i64 (u.t : Int)]
def usL (l : List Us) : List Value := l.flatMap Us.cells
theorem usL_append (a b : List Us) : usL (a ++ b) = usL a ++ usL b := by simp [usL]
theorem usL_length (l : List Us) : (usL l).length = l.length * 5 := by
  induction l with
  | nil => rfl
  | cons x l ih =>
    show (x.cells ++ usL l).length = _
    rw [List.length_append, ih]
    simp [Us.cells]
    omega
theorem usL_at : ∀ (l : List Us) (i j : Nat) (h : i < l.length), j < 5 → (usL l)[i * 5 + j]? = (l[i]).cells[j]?
  | [], i, j, h, _ => by simp at h
  | x :: l, 0, j, _, hj => by
    show (x.cells ++ usL l)[0 * 5 + j]? = _
    rw [Nat.zero_mul, Nat.zero_add, List.getElem?_append_left (by simpa [Us.cells] using hj)]
    rfl
  | x :: l, i + 1, j, h, hj => by
    show (x.cells ++ usL l)[(i + 1) * 5 + j]? = _
    have hc : x.cells.length = 5 := rfl
    rw [List.getElem?_append_right (by omega), hc, show (i + 1) * 5 + j - 5 = i * 5 + j by omega, usL_at l i j (by simpa using h) hj]
    rfl
theorem usL_set : ∀ (l : List Us) (i t : Nat) (h : i < l.length), (usL l).set (i * 5 + 4) (.int .i64 (t : Int)) = usL (l.set i ⟨(l[i]).c, t⟩)
  | [], i, t, h => by simp at h
  | x :: l, 0, t, _ => rfl
  | x :: l, i + 1, t, h => by
    have e : (i + 1) * 5 + 4 = i * 5 + 4 + 1 + 1 + 1 + 1 + 1 := by omega
    rw [e]
    show x.cells ++ (usL l).set (i * 5 + 4) _ = x.cells ++ usL _
    rw [usL_set l i t (by simpa using h)]
    rfl
theorem usL_put : ∀ (l : List Us) (i : Nat) (c : Px) (h : i < l.length), ((((usL l).set (i * 5) (.int .u8 (c.r.toNat : Int))).set (i * 5 + 1) (.int .u8 (c.g.toNat : Int))).set (i * 5 + 2) (.int .u8 (c.b.toNat : Int))).set (i * 5 + 3) (.int .u8 (c.a.toNat : Int)) = usL (l.set i ⟨c, (l[i]).t⟩)
  | [], i, c, h => by simp at h
  | x :: l, 0, c, _ => rfl
  | x :: l, i + 1, c, h => by
    have e : (i + 1) * 5 = i * 5 + 1 + 1 + 1 + 1 + 1 := by omega
    have e1 : (i + 1) * 5 + 1 = i * 5 + 1 + 1 + 1 + 1 + 1 + 1 := by omega
    have e2 : (i + 1) * 5 + 2 = i * 5 + 2 + 1 + 1 + 1 + 1 + 1 := by omega
    have e3 : (i + 1) * 5 + 3 = i * 5 + 3 + 1 + 1 + 1 + 1 + 1 := by omega
    rw [e3, e2, e1, e]
    show x.cells ++ ((((usL l).set (i * 5) _).set (i * 5 + 1) _).set (i * 5 + 2) _).set (i * 5 + 3) _ = x.cells ++ usL _
    rw [usL_put l i c (by simpa using h)]
    rfl

/-- A color and its number lie there. -/
structure UsAt (w : World) (k off : Nat) (u : Us) : Prop where
  c : PxAt w k off u.c
  t : w.cell? ⟨k, off + 4, none⟩ = some (.int .i64 (u.t : Int))
def IsUs (w : World) (a : Option Addr) (len : Nat) (u : Nat → Us) : Prop :=
  len = 0 ∨ ∃ b off, a = some ⟨b, off, none⟩ ∧ len ≤ maxLen ∧ ∀ i, i < len → UsAt w b (off + i * 5) (u i)
theorem UsAt.below {w w' : World} {b off B : Nat} {u : Us} (h : UsAt w b off u) (hb : Below B w w') (hB : b < B) : UsAt w' b off u :=
  ⟨h.c.below hb hB, (hb.cell (p := ⟨b, off + 4, none⟩) hB).trans h.t⟩
theorem IsUs.below {w w' : World} {a : Option Addr} {len : Nat} {u : Nat → Us} (h : IsUs w a len u) (hb : Below w.heap.size w w') : IsUs w' a len u := by
  rcases h with h | ⟨b, off, ha, hl, h⟩
  · exact .inl h
  · exact .inr ⟨b, off, ha, hl, fun i hi => (h i hi).below hb (h i hi).c.lt⟩
theorem IsUs.congr {w : World} {a : Option Addr} {len : Nat} {p q : Nat → Us} (h : IsUs w a len p) (he : ∀ i, i < len → p i = q i) : IsUs w a len q := by
  rcases h with h | ⟨b, off, ha, hl, h⟩
  · exact .inl h
  · exact .inr ⟨b, off, ha, hl, fun i hi => by rw [← he i hi]; exact h i hi⟩
/-- Row cells of a call's own. -/
theorem own_usAt {w : World} {base n cap g : Nat} {T : TypeId} {l : List Us} (h : w.ownsRow base T 5 (.slice (some ⟨g, 0, none⟩) n cap) n (usL l)) (i : Nat) (hi : i < l.length) (hn : l.length = n) : UsAt w g (i * 5) l[i] := by
  have hc : ∀ j, j < 5 → w.cell? ⟨g, i * 5 + j, none⟩ = (l[i]).cells[j]? := fun j hj => by
    rw [h.cellAt (i * 5 + j) (by omega)]
    exact usL_at l i j hi hj
  exact ⟨⟨hc 0 (by omega), hc 1 (by omega), hc 2 (by omega), hc 3 (by omega)⟩, hc 4 (by omega)⟩
theorem own_us {w : World} {base n cap : Nat} {T : TypeId} {a : Option Addr} {l : List Us} (h : w.ownsRow base T 5 (.slice a n cap) n (usL l)) (hn : l.length = n) (hm : n ≤ maxLen) : IsUs w a n (fun i => l.getD i default) := by
  by_cases h0 : n = 0
  · exact .inl h0
  rcases h.2 with ⟨_, q⟩ | ⟨g, cap', cur, hv, _⟩
  · exact absurd q h0
  · injection hv with hv _ _
    subst hv
    refine .inr ⟨g, 0, rfl, hm, fun i hi => ?_⟩
    have := own_usAt h i (by omega) hn
    show UsAt w g (0 + i * 5) (l.getD i default)
    rw [Nat.zero_add, List.getD_eq_getElem?_getD, List.getElem?_eq_getElem (by omega)]
    exact this
theorem own_shape5 {w : World} {base n : Nat} {e : TypeId} {v : Value} {xs : List Value} (h : w.ownsRow base e 5 v n xs) : ∃ a c, v = .slice a n c := by
  rcases h.2 with ⟨rfl, rfl⟩ | ⟨g, c, cur, rfl, _⟩
  · exact ⟨none, 0, rfl⟩
  · exact ⟨_, c, rfl⟩
theorem own_some {w : World} {base size n cap : Nat} {e : TypeId} {a : Option Addr} {xs : List Value} (h : w.ownsRow base e size (.slice a n cap) n xs) (h0 : 0 < n) : ∃ g, a = some ⟨g, 0, none⟩ ∧ base ≤ g ∧ g < w.heap.size := by
  rcases h.2 with ⟨_, q⟩ | ⟨g, cap', cur, hv, hb, hh, _⟩
  · omega
  · injection hv with hv _ _
    exact ⟨g, hv, hb, blk_lt hh⟩

theorem us_info : (Tryz.prog.info? 212).map (fun i => (i.zero, i.size, i.bytes)) = some (some (.agg #[.int .u8 0, .int .u8 0, .int .u8 0, .int .u8 0, .int .i64 0]), 5, 16) := by kernel_rfl
theorem app_us (w : World) (base q : Nat) (v : Value) (l : List Us) (x : Us) (t : TypeId) (hown : w.ownsRow base 212 5 v l.length (usL l)) (hx : UsAt w q 0 x) (hl : l.length ≤ 1000000) (hb : base ≤ w.heap.size) :
    ∃ v' w', (Builtin.append_ #[174, 174] t #[v, .slice (some ⟨q, 0, none⟩) 1 1]).run Tryz.prog w = .ok v' w' ∧ w'.ownsRow base 212 5 v' (l ++ [x]).length (usL (l ++ [x])) ∧ w.grownBy w' v.ownBlock ∧ (v'.ownBlock = v.ownBlock ∨ v'.ownBlock = some w.heap.size) := by
  obtain ⟨i0, hi, hz0, hz1, hz2⟩ := info_parts us_info
  obtain ⟨v', w', h1, h2, h3, h4, h5⟩ := run_append_own_at (P := Tryz.prog) w base 174 t 212 i0 (.agg #[.int .u8 0, .int .u8 0, .int .u8 0, .int .u8 0, .int .i64 0]) 5 16 Tryz.underlying174 hi hz0 hz1 hz2 rfl (by omega) v l.length (usL l) hown ⟨q, 0, none⟩ 1 1 x.cells rfl (fun j u hj => by
    have hadd : (⟨q, 0, none⟩ : Addr).add j = ⟨q, 0 + j, none⟩ := by unfold Addr.add; split <;> simp_all
    rw [hadd]
    match j, hj with
    | 0, hj => rw [← hj]; exact hx.c.r
    | 1, hj => rw [← hj]; exact hx.c.g
    | 2, hj => rw [← hj]; exact hx.c.b
    | 3, hj => rw [← hj]; exact hx.c.a
    | 4, hj => rw [← hj]; exact hx.t
    | j + 5, hj => simp [Us.cells] at hj) (fun u hu => by
    simp only [Us.cells, List.mem_cons, List.not_mem_nil, or_false] at hu
    rcases hu with rfl | rfl | rfl | rfl | rfl <;> rfl) (by unfold maxLen; omega) (by omega) hb
  refine ⟨v', w', h1, ?_, h3, h5⟩
  rw [usL_append, List.length_append]
  have e : usL [x] = x.cells := by simp [usL]
  rw [e]
  exact h2
theorem wpList_appUs (w : World) {ops : Array Oper} {rest : List Oper} {o : Oper} {a : Act} {Q : Exit → Act → World → Prop} (hgd : o.guard = none) (s x : Operand)
    (ho : o.op = .call { callee := .builtin .append, args := #[s, x], argTypes := #[174, 174] }) (base q : Nat) (v : Value) (l : List Us) (p : Us) (hs : a.eval s = v) (hx : a.eval x = .slice (some ⟨q, 0, none⟩) 1 1)
    (hown : w.ownsRow base 212 5 v l.length (usL l)) (hq : UsAt w q 0 p) (hl : l.length ≤ 1000000) (hb : base ≤ w.heap.size)
    (h : ∀ v' w', w'.ownsRow base 212 5 v' (l ++ [p]).length (usL (l ++ [p])) → w.grownBy w' v.ownBlock → (v'.ownBlock = v.ownBlock ∨ v'.ownBlock = some w.heap.size) → wpList Tryz.prog ops Q rest (a.put o.dst v') w') : wpList Tryz.prog ops Q (o :: rest) a w := by
  obtain ⟨v', w', h1, h2, h3, h4⟩ := app_us w base q v l p o.type hown hq hl hb
  refine wpList_plain hgd fun _ hK => ?_
  unfold Oper.wp execOp
  simp only [ho, resolve, invoke, builtin, Sem.run_bind, Sem.run_pure, Result.andThen_ok, List.map_toArray, List.map_cons, List.map_nil, hs, hx, h1]
  exact hK _ _ (h v' w' h2 h3 h4)
theorem five_new (w : World) (u : Us) (t : TypeId) : UsAt (w.alloc (.cells #[.int .u8 (u.c.r.toNat : Int), .int .u8 (u.c.g.toNat : Int), .int .u8 (u.c.b.toNat : Int), .int .u8 (u.c.a.toNat : Int), .int .i64 (u.t : Int)] t)) w.heap.size 0 u := by
  have c : ∀ j, (w.alloc (.cells #[.int .u8 (u.c.r.toNat : Int), .int .u8 (u.c.g.toNat : Int), .int .u8 (u.c.b.toNat : Int), .int .u8 (u.c.a.toNat : Int), .int .i64 (u.t : Int)] t)).cell? ⟨w.heap.size, j, none⟩ = (#[.int .u8 (u.c.r.toNat : Int), .int .u8 (u.c.g.toNat : Int), .int .u8 (u.c.b.toNat : Int), .int .u8 (u.c.a.toNat : Int), .int .i64 (u.t : Int)] : Array Value)[j]? := fun j => World.cell?_alloc_mark ..
  exact ⟨⟨c 0, c 1, c 2, c 3⟩, c 4⟩
end Go.Proofs.YtjcoahahponabaaGreatDoor
namespace Go.Proofs.YtjcoahahponabaaGreatDoor
open Go.RowKit

/-- Numbers lie there. -/
def IsNm (w : World) (a : Option Addr) (l : List Nat) : Prop := ∃ g, a = some ⟨g, 0, none⟩ ∧ g < w.heap.size ∧ ∀ j, j < l.length → w.cell? ⟨g, j, none⟩ = some (.int .i64 (l.getD j 0 : Nat))
theorem IsNm.below {w w' : World} {a : Option Addr} {l : List Nat} (h : IsNm w a l) (hb : Below w.heap.size w w') : IsNm w' a l := by
  obtain ⟨g, ha, hg, h⟩ := h
  exact ⟨g, ha, by have := hb.size; omega, fun j hj => (hb.cell (p := ⟨g, j, none⟩) hg).trans (h j hj)⟩
theorem own_nm {w : World} {base n c : Nat} {a : Option Addr} {l : List Nat} (h : w.ownsRow base 3 1 (.slice a n c) n (nV l)) (hl : l.length = n) (h0 : 0 < n) : IsNm w a l := by
  obtain ⟨g, rfl, _, hg⟩ := own_some h h0
  exact ⟨g, rfl, hg, fun j hj => by rw [h.cellAt j (by omega), nV_at l j hj]⟩
end Go.Proofs.YtjcoahahponabaaGreatDoor
