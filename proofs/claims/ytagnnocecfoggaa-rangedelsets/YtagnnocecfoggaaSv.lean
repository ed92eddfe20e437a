/-
  split: the fragments of tombstones that lie over something.
-/
import Derived.Test.YtagnnocecfoggaaSp
import Derived.Test.YtagnnocecfoggaaCu
import Derived.Test.YtagnnocecfoggaaBs
import Derived.Laws.EntriesVeiled
namespace Go.Proofs.Ytagnnocecfoggaa
open Go.RowKit
set_option linter.unusedVariables false
set_option linter.unusedSimpArgs false
theorem belN {b : Nat} {w W : World} (h : Below b w W) (n : Nat) : Below b w (W.drewN n) := ⟨h.os, h.tape, h.output, h.size, h.block⟩
/-- A slice that reads as fragments. -/
def RdF (w : World) (a : Option Addr) (L : List Fg) : Prop := ∃ ps : List Pc, ps.length = L.length ∧ Rd Pc.c 3 w a ps ∧ ∀ (i : Nat) (p : Pc) (f : Fg), ps[i]? = some p → L[i]? = some f → p.b = f.b ∧ p.e = f.e ∧ p.n = f.q.length ∧ Rd uc 1 w p.a f.q
theorem filter2 {R : Pc → Fg → Prop} {c : Pc → Bool} {d : Fg → Bool} (hc : ∀ p f, R p f → c p = d f) : ∀ (ps : List Pc) (L : List Fg), ps.length = L.length → (∀ (i : Nat) (p : Pc) (f : Fg), ps[i]? = some p → L[i]? = some f → R p f) → (ps.filter c).length = (L.filter d).length ∧ ∀ (i : Nat) (p : Pc) (f : Fg), (ps.filter c)[i]? = some p → (L.filter d)[i]? = some f → R p f := by
  intro ps
  induction ps with
  | nil =>
    intro L hl _
    have : L = [] := List.eq_nil_of_length_eq_zero hl.symm
    subst this; simp
  | cons p ps ih =>
    intro L hl h
    cases L with
    | nil => simp at hl
    | cons f L =>
      have h0 := h 0 p f rfl rfl
      obtain ⟨i1, i2⟩ := ih L (by simpa using hl) (fun i p f hp hf => h (i + 1) p f (by simpa using hp) (by simpa using hf))
      have e := hc p f h0
      rw [List.filter_cons, List.filter_cons, e]
      split
      · refine ⟨by simp [i1], fun i p' f' hp hf => ?_⟩
        cases i with
        | zero => simp at hp hf; subst hp hf; exact h0
        | succ i => exact i2 i p' f' (by simpa using hp) (by simpa using hf)
      · exact ⟨i1, i2⟩
theorem fold_b (how : Int) (l : List Tm) : ∀ (L : List Fg), (l.foldl (fun L x => L.map (upF how x)) L).map (fun f => f.b) = L.map (fun f => f.b) := by
  induction l with
  | nil => intro L; rfl
  | cons x l ih =>
    intro L
    rw [List.foldl_cons, ih, List.map_map]
    apply List.map_congr_left
    intro f _
    exact (upF_b how x f).1
theorem fold_len (how : Int) (l : List Tm) : ∀ (L : List Fg) (m : Nat), (∀ f ∈ L, f.q.length ≤ m) → ∀ f ∈ l.foldl (fun L x => L.map (upF how x)) L, f.q.length ≤ m + l.length := by
  induction l with
  | nil => intro L m h f hf; have := h f hf; simp; omega
  | cons x l ih =>
    intro L m h f hf
    rw [List.foldl_cons] at hf
    have := ih (L.map (upF how x)) (m + 1) (fun f hf => by
      simp only [List.mem_map] at hf
      obtain ⟨g, hg, rfl⟩ := hf
      have := h g hg
      unfold upF addQ
      split
      · show (if _ then _ else _ : List Int).length ≤ _
        split
        · omega
        · simp; omega
      · omega) f hf
    simp; omega
theorem pcs_fst {how : Int} {K : List ByteArray} (h : Str (kl how) K) : Str (kl how) ((pcs K).map (fun p => p.1)) := by
  rw [Str, List.pairwise_map, List.pairwise_iff_getElem]
  intro i j hi hj hij
  have g1 := pcs_get.1 (List.getElem?_eq_getElem hi)
  have g2 := pcs_get.1 (List.getElem?_eq_getElem hj)
  obtain ⟨i1, e1⟩ := List.getElem?_eq_some_iff.1 g1.1
  obtain ⟨i2, e2⟩ := List.getElem?_eq_some_iff.1 g2.1
  rw [← e1, ← e2]
  exact List.pairwise_iff_getElem.1 h _ _ i1 i2 hij
theorem cut_at {how : Int} {M : List ByteArray} (h : Str (kl how) M) (x : ByteArray) : ∃ p, p ≤ M.length ∧ (∀ i y, i < p → M[i]? = some y → kl how y x = true) ∧ ∀ i y, p ≤ i → M[i]? = some y → kl how y x = false := by
  obtain ⟨s1, s2⟩ := plc_split (lt := kl how) M x
  refine ⟨plc (kl how) M x, plc_le _ _, fun i y hi hy => ?_, fun i y hi hy => ?_⟩
  · apply take_lt (lt := kl how) (o := M) (x := x)
    rw [← s1]
    exact List.mem_of_getElem? (i := i) (by rw [List.getElem?_take_of_lt hi]; exact hy)
  · apply drop_ge (kl_sto how) h
    rw [← s2]
    exact List.mem_of_getElem? (i := i - plc (kl how) M x) (by rw [List.getElem?_drop]; rw [← hy]; congr 1; omega)
theorem row_base {w : World} {base base' : Nat} {e : TypeId} {k : Nat} {v : Value} {n : Nat} {xs : List Value} (h : w.ownsRow base' e k v n xs) (hb : base ≤ base') : w.ownsRow base e k v n xs := by
  refine ⟨h.1, ?_⟩
  rcases h.2 with hn | ⟨g, cap, cur, rfl, hg, rest⟩
  · exact .inl hn
  · exact .inr ⟨g, cap, cur, rfl, Nat.le_trans hb hg, rest⟩
def L0 (K : List ByteArray) : List Fg := (pcs K).map (fun p => (⟨p.1, p.2, []⟩ : Fg))
theorem iv_start {w w2 w3 : World} {b0 B C : Nat} {how : Int} {lv pv : Value} {l1 l2 : List Tm} {K : List ByteArray} (hp : RowP w2 w.heap.size pv ((pcs K).map Pc0)) (bB : Blk w2 B 3 [.int .i64 how]) (bC : Blk w2 C 84 [bkv B]) (hl1 : RowT w2 b0 lv l1) (hl2 : RowT w3 b0 lv l2) (u : Upd (fun k => lv.ownBlock = some k) w2 w3) (u0 : Upd (fun k => lv.ownBlock = some k) w w2) :
    Iv w w3 b0 B C how lv pv l2 ((pcs K).map Pc0) (L0 K) := by
  refine ⟨⟨row_upd hp u (fun k hk hk' => row_row_ne hp hl1 (by decide) k hk hk'), by simp [L0], ?_, ?_⟩, bB.upd u (fun e => row_ne hl1 bB (by decide) _ e rfl), bC.upd u (fun e => row_ne hl1 bC (by decide) _ e rfl), hl2, u0.trans u⟩
  · intro i p f hpi hfi
    simp only [L0, List.getElem?_map] at hpi hfi
    cases hx : (pcs K)[i]? with
    | none => rw [hx] at hpi; simp at hpi
    | some x =>
      rw [hx] at hpi hfi
      simp at hpi hfi
      subst hpi hfi
      exact ⟨rfl, rfl, World.ownsRow_nil _ _ _ _⟩
  · intro i j p p' _ hpi _ k hk
    simp only [List.getElem?_map] at hpi
    cases hx : (pcs K)[i]? with
    | none => rw [hx] at hpi; simp at hpi
    | some x => rw [hx] at hpi; simp at hpi; subst hpi; cases hk
/-- The state behind k tombstones. -/
def Lk (how : Int) (l2 : List Tm) (K : List ByteArray) (k : Nat) : List Fg := (l2.take k).foldl (fun L x => L.map (upF how x)) (L0 K)
theorem Lk_succ {how : Int} {l2 : List Tm} {K : List ByteArray} {k : Nat} {x : Tm} (h : l2[k]? = some x) : Lk how l2 K (k + 1) = (Lk how l2 K k).map (upF how x) := by
  unfold Lk; rw [List.take_add_one, h, List.foldl_append]; rfl
theorem Lk_b (how : Int) (l2 : List Tm) (K : List ByteArray) (k : Nat) : (Lk how l2 K k).map (fun f => f.b) = (pcs K).map (fun p => p.1) := by
  unfold Lk; rw [fold_b, L0, List.map_map]; rfl
theorem Lk_at {how : Int} {l2 : List Tm} {K : List ByteArray} {k i : Nat} {f : Fg} (h : (Lk how l2 K k)[i]? = some f) : ((pcs K).map (fun p => p.1))[i]? = some f.b := by
  rw [← Lk_b how l2 K k, List.getElem?_map, h]; rfl
theorem Lk_q {how : Int} {l2 : List Tm} {K : List ByteArray} {k i : Nat} {f : Fg} (h : (Lk how l2 K k)[i]? = some f) : f.q.length ≤ k := by
  have := fold_len how (l2.take k) (L0 K) 0 (fun f hf => by simp only [L0, List.mem_map] at hf; obtain ⟨p, _, rfl⟩ := hf; simp) f (List.mem_of_getElem? h)
  have h2 : (l2.take k).length ≤ k := by simp; omega
  omega
theorem step_call54 {ops : Array Oper} {o : Oper} {a : Act} {w : World} {K : Act → World → Prop} {Q : Exit → Act → World → Prop} {Ex : Prop} (hgd : o.guard = none) {d : Nat} (hd : o.dst = some d) (x y : Operand) (ts : Array TypeId)
    (ho : o.op = .call { callee := .value (.func 54), args := #[x, y], argTypes := ts }) (u v : Value) (hx : a.eval x = u) (hy : a.eval y = v) {R : Ending → World → Prop} (hc : Calls Try.prog 54 #[u, v] w R)
    (h : ∀ e w', R e w' → ∃ r, e = .returned r ∧ K (a.put (some d) r) w') :
    if Region.wanted o (yielded ops a.tmps) = true then Oper.wp Try.prog o a w K Q else Ex := by
  have hw : Region.wanted o (yielded ops a.tmps) = true := by simp [Region.wanted, hgd]
  rw [if_pos hw]
  have he := enters_of (P := Try.prog) Try.func54 (by kernel_rfl) rfl #[u, v]
  unfold Oper.wp execOp
  simp only [ho, resolve, invoke, Sem.run_bind, Sem.run_pure, Result.andThen_ok, List.map_toArray, List.map_cons, List.map_nil, hx, hy, go_sem]
  show Oper.upon Try.prog o a K Q (Sem.run Try.prog (callFunc 54 (#[] ++ #[a.eval x, a.eval y] ++ #[])) w)
  rw [show (#[] ++ #[a.eval x, a.eval y] ++ #[] : Array Value) = #[u, v] by simp [hx, hy], he, Oper.upon_enter]
  refine hc.mono ?_
  intro e w' hR
  obtain ⟨r, rfl, hk⟩ := h e w' hR
  show K (a.put o.dst r) w'
  rw [hd]
  exact hk
set_option maxRecDepth 100000 in
set_option maxHeartbeats 800000 in
theorem split_any {w : World} {b0 : Nat} {lv : Value} {l l1 : List Tm} {how : Int} (h1 : l1 = l.filter (lies how)) (hr : RowT w b0 lv l1) (hl : l1.length ≤ 1024) :
    Calls Try.prog 32 #[.int .i64 how, lv] w fun e w' => ∃ a c, e = .returned (.slice a (frs how l).length c) ∧ (frs how l).length ≤ c ∧ RdF w' a (frs how l) ∧ Upd (fun k => lv.ownBlock = some k) w w' := by
  obtain ⟨la, lc, hlv, hlc, hrd, hoff⟩ := row_rd tm_k hr
  have hlie : ∀ t ∈ l1, lies how t = true := fun t ht => by rw [h1, List.mem_filter] at ht; exact ht.2
  obtain ⟨W1, hW1⟩ : ∃ W1, W1 = (w.alloc (.cells #[.int .i64 how] 3)).alloc (.cells #[bkv w.heap.size] 84) := ⟨_, rfl⟩
  have b1 : Below w.heap.size w W1 := by rw [hW1]; exact ((Below.refl _ _).alloc (Nat.le_refl _) _).alloc (by simp) _
  have bB : Blk W1 w.heap.size 3 [.int .i64 how] := by rw [hW1]; exact (Blk.new w 3 [.int .i64 how]).alloc _
  have bC : Blk W1 (w.heap.size + 1) 84 [bkv w.heap.size] := by
    rw [hW1]
    have := Blk.new (w.alloc (.cells #[.int .i64 how] 3)) 84 [bkv w.heap.size]
    rw [World.size_alloc] at this; exact this
  have HA : Hid (RowT w b0 lv l1 ∧ Below w.heap.size w W1 ∧ Blk W1 w.heap.size 3 [.int .i64 how] ∧ Blk W1 (w.heap.size + 1) 84 [bkv w.heap.size]) := ⟨hr, b1, bB, bC⟩
  have cC := bC.cell1 0 _ rfl
  have HCu : Hid (Calls Try.prog 48 #[lv, bkv w.heap.size] W1 fun e w' => ∃ a' cap' K, e = .returned (.slice a' K.length cap') ∧ Rd sc 1 w' a' K ∧ Str (kl how) K ∧ (∀ z, z ∈ K ↔ ∃ t ∈ l1, z = t.b ∨ z = t.e) ∧ K.length ≤ 2048 ∧ Below W1.heap.size W1 w') := by
    rw [hlv]; exact cuts_any (bB.cell1 0 _ rfl) (hrd.below b1) hl
  obtain ⟨M, hM⟩ : ∃ M, Hid (M = l1.length) := ⟨_, rfl⟩
  rw [← hM.out] at hl
  have HL1 : Hid (l1 = l.filter (lies how) ∧ ∀ t ∈ l1, lies how t = true) := ⟨h1, hlie⟩
  rw [← hM.out] at hlv
  obtain ⟨B, hBe⟩ : ∃ B, Hid (B = w.heap.size) := ⟨_, rfl⟩
  clear hr b1 bB bC hrd h1 hlie hlc hoff
  subst hlv
  go_enter Try.func32, Try.ntmps32
  go_upto_region 2 with fail
  rw [show (w.alloc (Obj.cells #[Value.int IntKind.i64 how] 3)).alloc (Obj.cells #[Value.func (Fn.func 46) #[] #[Value.pointer (some ⟨w.heap.size, 0, none⟩)]] 84) = W1 from hW1.symm]
  clear hW1
  go_upto_region 4 with (first
    | (go_at_call 48; refine HCu.out.mono ?_; rintro e w1 ⟨a1, c1, K, rfl, p1, p2, p3, p4, p5⟩
       have P : Hid (Str (kl how) K ∧ (∀ z, z ∈ K ↔ ∃ t ∈ l1, z = t.b ∨ z = t.e) ∧ K.length ≤ 2048 ∧ Below W1.heap.size W1 w1) := ⟨p2, p3, p4, p5⟩
       have HBt : Hid (Calls Try.prog 47 #[.slice a1 K.length c1] w1 fun e w' => ∃ v, e = .returned v ∧ RowP w' w1.heap.size v ((pcs K).map Pc0) ∧ Below w1.heap.size w1 w') := between_any p1 (by omega)
       clear p1 p2 p3 p4 p5)
    | (go_at_call 47; refine HBt.out.mono ?_; rintro e w2 ⟨pv, rfl, p1, p2⟩
       have hb2 : Below w.heap.size w w2 := (HA.out.2.1.trans (P.out.2.2.2.mono HA.out.2.1.size)).trans (p2.mono (Nat.le_trans HA.out.2.1.size P.out.2.2.2.size))
       have hb12 : Below W1.heap.size W1 w2 := P.out.2.2.2.trans (p2.mono P.out.2.2.2.size)
       have HP2 : Hid (RowP w2 w.heap.size pv ((pcs K).map Pc0) ∧ RowT w2 b0 (.slice la M lc) l1 ∧ Upd (fun k => (Value.slice la M lc).ownBlock = some k) w w2 ∧ Blk w2 w.heap.size 3 [.int .i64 how] ∧ Blk w2 (w.heap.size + 1) 84 [bkv w.heap.size]) := ⟨row_base p1 (Nat.le_trans HA.out.2.1.size P.out.2.2.2.size), rowt_below HA.out.1 hb2, Upd.ofBelow hb2, HA.out.2.2.1.upd (S := Non) (Upd.ofBelow hb12) (fun h => h), HA.out.2.2.2.upd (S := Non) (Upd.ofBelow hb12) (fun h => h)⟩
       obtain ⟨pa, pc, hpv⟩ := row_slice p1
       obtain ⟨N, hN⟩ : ∃ N, Hid (((pcs K).map Pc0).length = N) := ⟨_, rfl⟩
       rw [hN.out] at hpv
       subst hpv
       have HSo : Hid (Calls Try.prog 49 #[.slice la M lc, .func (.func 50) #[] #[]] w2 fun e w' => e = .returned (.tuple #[]) ∧ ∃ l', l'.Perm l1 ∧ l'.Pairwise (fun x y => y.s ≤ x.s) ∧ RowT w' b0 (.slice la M lc) l' ∧ Upd (fun k => (Value.slice la M lc).ownBlock = some k) w2 w') := sortT_any HP2.out.2.1 (by have := hM.out; omega)
       clear p1 p2 hb2 hb12)
    | (go_at_call 49; refine HSo.out.mono ?_; rintro e w3 ⟨rfl, l2, p1, p2, p3, p4⟩
       have HI : Hid (Iv w w3 b0 w.heap.size (w.heap.size + 1) how (.slice la M lc) (.slice pa N pc) l2 ((pcs K).map Pc0) (L0 K)) := iv_start HP2.out.1 HP2.out.2.2.2.1 HP2.out.2.2.2.2 HP2.out.2.1 p3 p4 HP2.out.2.2.1
       have P2 : Hid (l2.Perm l1 ∧ l2.Pairwise (fun x y => y.s ≤ x.s)) := ⟨p1, p2⟩
       clear p1 p2 p3 p4))
  have hM2 : Hid (l2.length = M) := P2.out.1.length_eq.trans hM.out.symm
  have hNl : N ≤ 2048 := by have h1 := hN.out; have h2 := P.out.2.2.1; rw [List.length_map, pcs_len] at h1; omega
  clear cC HCu HBt HSo HP2 HA
  go_wp2_with fail
  go_loopw [21] (fun i wr => ∃ k : Nat, k ≤ M ∧ i = .int .i64 k ∧ Hid (∃ ps, Iv w wr b0 w.heap.size (w.heap.size + 1) how (.slice la M lc) (.slice pa N pc) l2 ps (Lk how l2 K k))) (fun i _ => ((M : Int) - intOf i).toNat)
  case atStart => exact ⟨0, Nat.zero_le _, rfl, _, HI.out⟩
  case round =>
    obtain ⟨k, hk, rfl, HB⟩ := hrel
    rcases Nat.lt_or_ge k M with hkM | hkM
    · have hkz : (k : Int) < M := by omega
      obtain ⟨x, hx⟩ : ∃ x, l2[k]? = some x := ⟨l2[k]'(by rw [hM2.out]; omega), List.getElem?_eq_getElem _⟩
      obtain ⟨ps, hI⟩ := HB.out
      obtain ⟨W0, rfl⟩ : ∃ W0, W0 = wr := ⟨_, rfl⟩
      obtain ⟨la', lc', e', _, hrd, hoff⟩ := row_rd tm_k hI.lr
      injection e' with e1 e2 e3
      subst e1
      obtain ⟨g, o, hla, hat⟩ := hrd.at_ hx
      obtain ⟨ho, _⟩ := hoff g o hla
      subst hla ho
      obtain ⟨t0, t1, t2⟩ := hat.t
      rw [Nat.zero_add] at t0 t1 t2
      have HX : Hid (l2[k]? = some x) := hx
      have hlx : lies how x = true := HL1.out.2 x (P2.out.1.mem_iff.1 (List.mem_of_getElem? hx))
      have hbx : Below W0.heap.size W0 (W0.alloc (.cells #[.string x.b, .string x.e, .int .u64 x.s] 56)) := (Below.refl _ _).alloc (Nat.le_refl _) _
      have hI4 := hI.below hbx
      have hX4 : Blk (W0.alloc (.cells #[.string x.b, .string x.e, .int .u64 x.s] 56)) W0.heap.size 56 x.c := Blk.new W0 56 x.c
      have hpl : ps.length = N := by
        rcases row_slice hI.sp.row with ⟨_, _, e⟩
        injection e with _ e _
        exact e.symm
      have hll : (Lk how l2 K k).length = N := by rw [← hI.sp.len, hpl]
      obtain ⟨p, hp1, hp2, hp3⟩ := cut_at (pcs_fst P.out.1) x.b
      have hpN : p ≤ N := by
        have := congrArg List.length (Lk_b how l2 K k)
        rw [List.length_map, hll] at this
        rw [← this] at hp1; exact hp1
      have hfb : ∀ (i : Nat) (t : Pc), ps[i]? = some t → ((pcs K).map (fun p => p.1))[i]? = some t.b := fun i t ht => by
        obtain ⟨f, hf⟩ : ∃ f, (Lk how l2 K k)[i]? = some f := ⟨_, List.getElem?_eq_getElem (by rw [hll, ← hpl]; exact (List.getElem?_eq_some_iff.1 ht).1)⟩
        rw [(hI.sp.at_ i t f ht hf).1]; exact Lk_at hf
      have hcut : PCut how ps x.b p := ⟨by omega, fun i t hi ht => by have := hp2 i _ hi (hfb i t ht); simpa [kl] using this, fun i t hi ht => by have := hp3 i _ hi (hfb i t ht); simpa [kl] using this⟩
      have HBs : Hid (Calls Try.prog 52 #[.slice pa N pc, .string x.b, .func (.func 53) #[] #[ptr (w.heap.size + 1)]] (W0.alloc (.cells #[.string x.b, .string x.e, .int .u64 x.s] 56)) fun e w' => ∃ r, e = .returned (.tuple #[.int .i64 p, .bool r]) ∧ Below (W0.alloc (.cells #[.string x.b, .string x.e, .int .u64 x.s] 56)).heap.size (W0.alloc (.cells #[.string x.b, .string x.e, .int .u64 x.s] 56)) w') := by
        obtain ⟨pa', pc', e, _, hrp, _⟩ := row_rd pc_k hI4.sp.row
        injection e with e1 e2 e3
        subst e1
        have := bs_any (cap := pc) (hI4.bB.cell1 0 _ rfl) (hI4.bC.cell1 0 _ rfl) hrp x.b p hcut (by omega)
        rw [hpl] at this
        exact this
      have HI4 : Hid (Iv w (W0.alloc (.cells #[.string x.b, .string x.e, .int .u64 x.s] 56)) b0 w.heap.size (w.heap.size + 1) how (.slice (some ⟨g, 0, none⟩) M lc) (.slice pa N pc) l2 ps (Lk how l2 K k) ∧ Blk (W0.alloc (.cells #[.string x.b, .string x.e, .int .u64 x.s] 56)) W0.heap.size 56 x.c) := ⟨hI4, hX4⟩
      have HS1 : Hid (upTo how x (Lk how l2 K k) p = Lk how l2 K k) := upTo_same fun j f hj hf => by
        have := hp2 j _ hj (Lk_at hf)
        simp [ovr, kle, this]
      have HS2 : Hid (∀ (j : Nat) (f : Fg), p ≤ j → (Lk how l2 K k)[j]? = some f → ovr how x f.b = kl how f.b x.e) := fun j f hj hf => by
        have := hp3 j _ hj (Lk_at hf)
        simp [ovr, kle, this]
      have HS3 : Hid ((Lk how l2 K k).length = N ∧ Lk how l2 K (k + 1) = (Lk how l2 K k).map (upF how x)) := ⟨hll, Lk_succ hx⟩
      clear hI hI4 hX4 hbx hat hx hrd hoff hcut hfb hp1 hp2 hp3 hpl hll e2 e3
      go_wp2_with (go_at_call 52; refine HBs.out.mono ?_; rintro e w5 ⟨r, rfl, hb5⟩
                   have HI5 : Hid (Iv w w5 b0 w.heap.size (w.heap.size + 1) how (.slice (some ⟨g, 0, none⟩) M lc) (.slice pa N pc) l2 ps (Lk how l2 K k) ∧ Blk w5 W0.heap.size 56 x.c) := ⟨HI4.out.1.below hb5, HI4.out.2.upd (S := Non) (Upd.ofBelow hb5) (fun h => h)⟩
                   clear hb5)
      clear HBs HI4 t0 t1 t2
      go_loopw [11] (fun i wr => ∃ j : Nat, p ≤ j ∧ j ≤ N ∧ i = .int .i64 j ∧ Hid (∃ ps, Iv w wr b0 w.heap.size (w.heap.size + 1) how (.slice (some ⟨g, 0, none⟩) M lc) (.slice pa N pc) l2 ps (upTo how x (Lk how l2 K k) j) ∧ Blk wr W0.heap.size 56 x.c)) (fun i _ => ((N : Int) - intOf i).toNat)
      case atStart => exact ⟨p, Nat.le_refl _, hpN, rfl, ps, by rw [HS1.out]; exact HI5.out.1, HI5.out.2⟩
      case round =>
        clear HI5
        obtain ⟨j, hpj, hjN, rfl, HJ⟩ := hrel
        rcases Nat.lt_or_ge j N with hjN' | hjN'
        · have hjz : (j : Int) < N := by omega
          obtain ⟨ps, hI, hX⟩ := HJ.out
          obtain ⟨f, hf⟩ : ∃ f, (Lk how l2 K k)[j]? = some f := ⟨_, List.getElem?_eq_getElem (by rw [HS3.out.1]; exact hjN')⟩
          have hf' : (upTo how x (Lk how l2 K k) j)[j]? = some f := by rw [upTo_get, if_neg (by omega)]; exact hf
          obtain ⟨q, hq⟩ : ∃ q, ps[j]? = some q := ⟨_, List.getElem?_eq_getElem (by rw [hI.sp.len, upTo_len, HS3.out.1]; exact hjN')⟩
          obtain ⟨eb, ee, hRu⟩ := hI.sp.at_ j q f hq hf'
          obtain ⟨pa', pc', e, _, hrp, hoffp⟩ := row_rd pc_k hI.sp.row
          injection e with e1 e2 e3
          subst e1
          obtain ⟨pg, po, hpa, hatp⟩ := hrp.at_ hq
          obtain ⟨hpo, _⟩ := hoffp pg po hpa
          subst hpa hpo
          obtain ⟨q0, q1, q2⟩ := hatp.p
          rw [Nat.zero_add] at q0 q1 q2
          have x1 := hX.cell1 1 _ rfl
          have x2 := hX.cell1 2 _ rfl
          have cC : wr.cell? ⟨w.heap.size + 1, 0, none⟩ = some (.func (.func 46) #[] #[.pointer (some ⟨w.heap.size, 0, none⟩)]) := hI.bC.cell1 0 _ rfl
          have cB := hI.bB.cell1 0 _ rfl
          have HBy : Hid (∀ n, Calls Try.prog 46 #[.string q.b, .string x.e, ptr w.heap.size] (wr.drewN n) fun e w' => e = .returned (.int .i64 (cmpH how q.b x.e)) ∧ w' = wr.drewN n) := fun n => bykey_any (w := wr.drewN n) cB _ _
          have HQ : Hid (ps[j]? = some q ∧ (upTo how x (Lk how l2 K k) j)[j]? = some f ∧ (Lk how l2 K k)[j]? = some f ∧ RowU wr w.heap.size q.s f.q ∧ q.b = f.b ∧ f.q.length ≤ 10000) := ⟨hq, hf', hf, hRu, eb, by have := Lk_q hf; omega⟩
          have HJx : Hid (Blk wr W0.heap.size 56 x.c) := hX
          clear hq hf' hf hRu ee eb hatp hrp hoffp e2 e3 hX
          cases hc : kl how q.b x.e
          · have hcn : ¬ cmpH how q.b x.e < 0 := by simpa [kl] using hc
            have hcd : decide (cmpH how q.b x.e < 0) = false := by simpa using hcn
            have HE : Hid (∀ n, Iv w (wr.drewN n) b0 w.heap.size (w.heap.size + 1) how (.slice (some ⟨g, 0, none⟩) M lc) (.slice (some ⟨pg, 0, none⟩) N pc) l2 ps (Lk how l2 K (k + 1))) := fun n => by
              rw [HS3.out.2, ← upTo_all (i := j)]
              · exact hI.below (belN (Below.refl _ _) n)
              · intro i f' hi hf'
                rw [HS2.out i f' (by omega) hf']
                have hs := pcs_fst P.out.1
                cases e : kl how f'.b x.e
                · rfl
                · exfalso
                  have h1 := Lk_at hf'
                  have h2 := Lk_at HQ.out.2.2.1
                  have hle : kle how f.b f'.b = true := by
                    obtain ⟨i1, e1⟩ := List.getElem?_eq_some_iff.1 h1
                    obtain ⟨i2, e2⟩ := List.getElem?_eq_some_iff.1 h2
                    rcases Nat.lt_or_ge j i with hh | hh
                    · rw [← e1, ← e2]; exact kl_le (List.pairwise_iff_getElem.1 hs _ _ i2 i1 hh)
                    · have : i = j := by omega
                      subst this
                      rw [← e1, ← e2]; exact kle_rfl
                  have := kle_kl hle e
                  rw [← HQ.out.2.2.2.2.1, hc] at this
                  cases this
            clear hI HQ q1 q2 x2
            go_wp2_with fail
            go_quiet ((go_at_call 46; exact Calls.quiet_of_same (HBy.out _)))
            go_wp2_with fail
            go_roundw
            case rel => exact ⟨k + 1, by omega, by go_num, ps, HE.out _⟩
            case measure => simp [intOf]; omega
          · have hcn : cmpH how q.b x.e < 0 := by simpa [kl] using hc
            have hcd : decide (cmpH how q.b x.e < 0) = true := by simpa using hcn
            have HI6 : Hid (Iv w wr b0 w.heap.size (w.heap.size + 1) how (.slice (some ⟨g, 0, none⟩) M lc) (.slice (some ⟨pg, 0, none⟩) N pc) l2 ps (upTo how x (Lk how l2 K k) j) ∧ Blk wr W0.heap.size 56 x.c) := ⟨hI, HJx.out⟩
            clear hI q1
            go_wp2_with fail
            go_quiet ((go_at_call 46; exact Calls.quiet_of_same (HBy.out _)))
            have hbn : Below wr.heap.size wr (wr.drewN nq).drew := (belN (Below.refl _ _) nq).drew
            have q2' : (wr.drewN nq).cell? ⟨pg, j * 3 + 2, none⟩ = some q.s := q2
            have x2' : (wr.drewN nq).cell? ⟨W0.heap.size, 2, none⟩ = some (.int .u64 x.s) := x2
            have HI7 : Hid (Iv w (wr.drewN nq).drew b0 w.heap.size (w.heap.size + 1) how (.slice (some ⟨g, 0, none⟩) M lc) (.slice (some ⟨pg, 0, none⟩) N pc) l2 ps (upTo how x (Lk how l2 K k) j) ∧ Blk (wr.drewN nq).drew W0.heap.size 56 x.c) := ⟨HI6.out.1.below hbn, HI6.out.2.upd (S := Non) (Upd.ofBelow hbn) (fun h => h)⟩
            have HR7 : Hid (RowU (wr.drewN nq).drew w.heap.size q.s f.q) := row_upd HQ.out.2.2.2.1 (S := Non) (Upd.ofBelow hbn) (fun _ _ h => h)
            generalize wr.drewN nq = W6 at *
            have HAd : Hid (Calls Try.prog 54 #[.slice q.a q.n q.k, .int .u64 x.s] W6.drew fun e w' => ∃ v', e = .returned v' ∧ RowU w' w.heap.size v' (addQ f.q x.s) ∧ Upd (fun k => q.s.ownBlock = some k) W6.drew w' ∧ (v'.ownBlock = q.s.ownBlock ∨ ∃ k, v'.ownBlock = some k ∧ W6.drew.heap.size ≤ k)) := added_any HR7.out HI7.out.1.upd.size x.s HQ.out.2.2.2.2.2
            have HPut : Hid (∀ w7 v', RowU w7 w.heap.size v' (addQ f.q x.s) → Upd (fun k => q.s.ownBlock = some k) W6.drew w7 → (v'.ownBlock = q.s.ownBlock ∨ ∃ k, v'.ownBlock = some k ∧ W6.drew.heap.size ≤ k) → ∃ a m c, v' = .slice a m c ∧ w7.cell? ⟨pg, j * 3 + 2, none⟩ = some q.s ∧ w7.frozen? ⟨pg, j * 3 + 2, none⟩ = false ∧ Hid (Iv w (w7.setCell ⟨pg, j * 3 + 2, none⟩ (.slice a m c)) b0 w.heap.size (w.heap.size + 1) how (.slice (some ⟨g, 0, none⟩) M lc) (.slice (some ⟨pg, 0, none⟩) N pc) l2 (ps.set j ⟨q.b, q.e, a, m, c⟩) (upTo how x (Lk how l2 K k) (j + 1)) ∧ Blk (w7.setCell ⟨pg, j * 3 + 2, none⟩ (.slice a m c)) W0.heap.size 56 x.c)) := by
              intro w7 v' r1 r2 r3
              obtain ⟨a, c, hv⟩ := row_slice r1
              generalize hmm : (addQ f.q x.s).length = m at hv
              subst hv
              have hpq : ∀ k, q.s.ownBlock = some k → k ≠ pg := fun k hk e => row_row_ne HR7.out HI7.out.1.sp.row (by decide) k hk (by rw [e]; rfl)
              have hrow7 := row_upd HI7.out.1.sp.row r2 (fun k hk hk' => hpq k hk' (by cases hk; rfl))
              refine ⟨a, m, c, rfl, cell_upd r2 (fun e => hpq _ e rfl) q2', ?_, ?_⟩
              · rcases hrow7.2 with ⟨e, _⟩ | ⟨g', cap', cur, e, _, hg, _⟩
                · cases e
                · cases e; simp [World.frozen?, hg]
              · obtain ⟨z1, z2⟩ := HI7.out.1.put HQ.out.1 HQ.out.2.1 r1 r2 r3
                refine ⟨?_, z2 _ _ HI7.out.2⟩
                rw [upTo_step how x _ j f HQ.out.2.2.1]
                have hov : ovr how x f.b = true := by rw [HS2.out j f hpj HQ.out.2.2.1, ← HQ.out.2.2.2.2.1]; exact hc
                rw [show upF how x f = ⟨f.b, f.e, addQ f.q x.s⟩ by unfold upF; rw [if_pos hov]]
                exact z1
            clear HR7 HI6 HI7 hbn q2 x2 q0 x1 cC cB
            go_wp2_with fail
            go_region_law (first
              | (refine step_call54 (by rfl) (by rfl) _ _ _ (by rfl) _ _ (by rfl) (by rfl) HAd.out ?_
                 rintro e w7 ⟨v', rfl, r1, r2, r3⟩
                 obtain ⟨a7, m7, c7, rfl, k1, k2, HF7⟩ := HPut.out w7 v' r1 r2 r3
                 refine ⟨_, rfl, ?_⟩
                 clear r1 r2 r3))
            all_goals
              go_wp2_with fail
              go_roundw
              case rel => exact ⟨j + 1, by omega, by omega, by go_num, _, HF7.out⟩
              case measure => simp [intOf]; omega
        · obtain rfl : j = N := by omega
          have hz : ¬ ((j : Int) < j) := by omega
          obtain ⟨ps, hI, hX⟩ := HJ.out
          have HE : Hid (∀ n, Iv w (wr.drewN n) b0 w.heap.size (w.heap.size + 1) how (.slice (some ⟨g, 0, none⟩) M lc) (.slice pa j pc) l2 ps (Lk how l2 K (k + 1))) := fun n => by
            rw [HS3.out.2, ← upTo_all (i := j)]
            · exact hI.below (belN (Below.refl _ _) n)
            · intro i f' hi hf'
              have := (List.getElem?_eq_some_iff.1 hf').1
              rw [HS3.out.1] at this
              omega
          clear hI hX
          go_wp2_with fail
          first | go_quiet (fail) | go_big_quiet (fail)
          go_wp2_with fail
          go_roundw
          case rel => exact ⟨k + 1, by omega, by go_num, ps, HE.out _⟩
          case measure => simp [intOf]; omega
    · obtain rfl : k = M := by omega
      have hz : ¬ ((k : Int) < k) := by omega
      obtain ⟨ps, hI⟩ := HB.out
      have hpl : ps.length = N := by
        rcases row_slice hI.sp.row with ⟨_, _, e⟩
        injection e with _ e _
        exact e.symm
      have HDl : Hid (Calls Try.prog 55 #[.slice pa N pc, pnv] wr fun e w' => ∃ a c, e = .returned (.slice a (ps.filter kp).length c) ∧ (ps.filter kp).length ≤ c ∧ Rd Pc.c 3 w' a (ps.filter kp) ∧ Upd (fun k => (Value.slice pa N pc).ownBlock = some k) wr w') := delete_any hI.sp.row (by omega)
      have HLf : Hid ((Lk how l2 K k).filter (fun f => !f.q.isEmpty) = frs how l) := by
        show _ = _
        have := split_frs (l := l) HL1.out.1 P2.out.1 P2.out.2 P.out.1 P.out.2.1
        rw [← this]
        unfold Lk L0
        rw [List.take_of_length_le (by rw [hM2.out]; omega)]
      have HEnd : Hid (∀ w' a, Rd Pc.c 3 w' a (ps.filter kp) → Upd (fun k => (Value.slice pa N pc).ownBlock = some k) wr w' → (ps.filter kp).length = (frs how l).length ∧ RdF w' a (frs how l) ∧ Upd (fun j => (Value.slice la k lc).ownBlock = some j) w w') := by
        intro w' a r1 r2
        have hf2 := filter2 (R := fun p f => p.b = f.b ∧ p.e = f.e ∧ RowU wr w.heap.size p.s f.q) (c := kp) (d := fun f => !f.q.isEmpty) (fun p f h => by
          have : p.n = f.q.length := by
            obtain ⟨_, _, e⟩ := row_slice h.2.2
            injection e with _ e _
          show (!decide (p.n = 0)) = !f.q.isEmpty
          rw [this]
          cases f.q <;> simp) ps (Lk how l2 K k) hI.sp.len hI.sp.at_
        rw [HLf.out] at hf2
        refine ⟨hf2.1, ⟨ps.filter kp, hf2.1, r1, fun i p f hp hf => ?_⟩, hI.upd.then r2 (fun j hj e => by have := (row_blk hI.sp.row j e).1; omega)⟩
        obtain ⟨h1, h2, h3⟩ := hf2.2 i p f hp hf
        obtain ⟨a', c', e, _, hrd, _⟩ := row_rd uc_k h3
        injection e with e1 e2 e3
        refine ⟨h1, h2, e2, ?_⟩
        rw [e1]
        refine hrd.upd r2 (fun g o ha hg => ?_)
        have := row_row_ne h3 hI.sp.row (by decide) g (by rw [show p.s = .slice (some ⟨g, o, none⟩) p.n p.k by rw [← ha, ← e1]]; rfl)
        exact this hg
      clear hI hpl
      go_wp2_with (go_at_call 55; refine HDl.out.mono ?_; rintro e w8 ⟨a8, c8, rfl, r0, r1, r2⟩
                   have HF8 : Hid ((ps.filter kp).length = (frs how l).length ∧ RdF w8 a8 (frs how l) ∧ Upd (fun j => (Value.slice la k lc).ownBlock = some j) w w8) := HEnd.out w8 a8 r1 r2
                   have HC8 : Hid ((ps.filter kp).length ≤ c8) := r0
                   clear r0 r1 r2
                   rw [HF8.out.1] at HC8 ⊢)
      go_ret
      exact ⟨_, _, rfl, HC8.out, HF8.out.2⟩
end Go.Proofs.Ytagnnocecfoggaa
