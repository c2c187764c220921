/-
  An element that lies at a block, as the laws of layers 6 and 7 keep it.
  The walk of layer 7's law WriteMay: what may not be is not written.
  From what a row lists of the package-level variables, and the world's shape, to what the walks of entity ask of the world.
  An element that was handed in, and a pair of numbers.
-/
import Derived.Test.YtincdacickhdkaaDoorM6
import Derived.Test.YtincdacickhdkaaDoorM5
import Derived.Test.YtincdacickhdkaaDoorM11
import Derived.Test.YtincdacickhdkaaDoorM10
import Derived.Test.YtincdacickhdkaaDoorM3
import Derived.BigQuiet
import Derived.Deep.QuietTactic
import Derived.IntWalk
import Derived.Lib.LaidU8
import Derived.OpenShut
import Derived.Deep.Slices
import Derived.Deep.Fields
import Derived.ChangeSame
import Derived.Carry
namespace Go.Proofs.YtincdacickhdkaaDoor
open Go Go.RowKit Go.Lib
set_option maxRecDepth 100000

/-- What is known of a world in which an element lies at a block. -/
structure AtN (B : Nat) (w0 w : World) (q : Nat) (a b e : ByteArray) (p1 : Option Addr) (n1 c1 : Nat) (p2 : Option Addr) (n2 c2 : Nat) (x : Nd) : Prop where
  below : Below B w0 w
  lt : q < w.heap.size
  k0 : w.cell? ⟨q, 0, none⟩ = some (.string a)
  k1 : w.cell? ⟨q, 1, none⟩ = some (.string b)
  k2 : w.cell? ⟨q, 2, none⟩ = some (.slice p1 n1 c1)
  k3 : w.cell? ⟨q, 3, none⟩ = some (.slice p2 n2 c2)
  k4 : w.cell? ⟨q, 4, none⟩ = some (.string e)
  nv : NodeV (fun _ => True) w (.agg #[.string a, .string b, .slice p1 n1 c1, .slice p2 n2 c2, .string e]) x
  ev : EntV w
  tv : Tabs w
theorem AtN.to {B : Nat} {w0 w w' : World} {q : Nat} {a b e : ByteArray} {p1 : Option Addr} {n1 c1 : Nat} {p2 : Option Addr} {n2 c2 : Nat} {x : Nd} (h : AtN B w0 w q a b e p1 n1 c1 p2 n2 c2 x) (hb : Below w.heap.size w w') (hB : B ≤ w.heap.size) : AtN B w0 w' q a b e p1 n1 c1 p2 n2 c2 x where
  below := h.below.trans (hb.mono hB)
  lt := Nat.lt_of_lt_of_le h.lt hb.size
  k0 := (hb.cell (p := ⟨q, 0, none⟩) h.lt).trans h.k0
  k1 := (hb.cell (p := ⟨q, 1, none⟩) h.lt).trans h.k1
  k2 := (hb.cell (p := ⟨q, 2, none⟩) h.lt).trans h.k2
  k3 := (hb.cell (p := ⟨q, 3, none⟩) h.lt).trans h.k3
  k4 := (hb.cell (p := ⟨q, 4, none⟩) h.lt).trans h.k4
  nv := h.nv.to hb.size fun g _ hg => ⟨trivial, hb.block g hg⟩
  ev := h.ev.below hb
  tv := h.tv.below hb

end Go.Proofs.YtincdacickhdkaaDoor
namespace Go.Proofs.YtincdacickhdkaaDoor
open Go Go.RowKit Go.Lib
set_option maxRecDepth 100000

/-! ### an element's value, list by list -/
def KidsV (P : Nat → Prop) (w : World) (v : Value) (K : List Nd) : Prop :=
  ∃ (ao : Option Addr) (cap : Nat) (c : Nat → Nat → Value), v = .slice ao K.length cap ∧ (0 < K.length → ∃ g o, ao = some ⟨g, o, none⟩ ∧ P g ∧ g < w.heap.size ∧ ∀ j, j < K.length → ∀ q, q < 5 → w.cell? ⟨g, o + j * 5 + q, none⟩ = some (c j q)) ∧
    ∀ j (h : j < K.length), NodeV P w (.agg #[c j 0, c j 1, c j 2, c j 3, c j 4]) (K[j]'h)
theorem node_parts {P : Nat → Prop} {w : World} {v : Value} {x : Nd} (h : NodeV P w v x) : ∃ (sp nm tx : ByteArray) (A : List Att) (K : List Nd) (va vk : Value), v = .agg #[.string sp, .string nm, va, vk, .string tx] ∧ x = .mk sp nm A K tx ∧ AttV P w va A ∧ KidsV P w vk K := by
  cases h with
  | mk sp nm tx A K va ao cap c ha hk hn => exact ⟨sp, nm, tx, A, K, va, _, rfl, rfl, ha, ao, cap, c, rfl, hk, hn⟩
theorem node_make {P : Nat → Prop} {w : World} {sp nm tx : ByteArray} {A : List Att} {K : List Nd} {va vk : Value} (ha : AttV P w va A) (hk : KidsV P w vk K) : NodeV P w (.agg #[.string sp, .string nm, va, vk, .string tx]) (.mk sp nm A K tx) := by
  obtain ⟨ao, cap, c, rfl, hk, hn⟩ := hk
  exact .mk sp nm tx A K va ao cap c ha hk hn
theorem KidsV.to {P P' : Nat → Prop} {w w' : World} {v : Value} {K : List Nd} (h : KidsV P w v K) (hs : w.heap.size ≤ w'.heap.size) (hb : ∀ g, P g → g < w.heap.size → P' g ∧ w'.heap[g]? = w.heap[g]?) : KidsV P' w' v K := by
  obtain ⟨ao, cap, c, hv, hk, hn⟩ := h
  refine ⟨ao, cap, c, hv, fun h0 => ?_, fun j hj => (hn j hj).to hs hb⟩
  obtain ⟨g, o, hao, hp, hg, h⟩ := hk h0
  obtain ⟨hp', he⟩ := hb g hp hg
  exact ⟨g, o, hao, hp', Nat.lt_of_lt_of_le hg hs, fun j hj q hq => (World.cell?_of_block (w := w) he).trans (h j hj q hq)⟩
theorem kids_none (w : World) : KidsV (fun _ => True) w (.slice none 0 0) [] := ⟨none, 0, fun _ _ => undef, rfl, fun h => absurd h (Nat.lt_irrefl _), fun j h => absurd h (Nat.not_lt_zero j)⟩
theorem atts_none (w : World) : AttV (fun _ => True) w (.slice none 0 0) [] := ⟨none, 0, rfl, fun h => absurd h (Nat.lt_irrefl _), Nat.le_refl _⟩
/-- One attribute, or two, in a block of their own. -/
theorem atts_new {w : World} {g : Nat} {z : Nat × Nat} (A : List Att) (h : w.heap[g]? = some (.cells (cellsA A).toArray 31 z)) : AttV (fun _ => True) w (.slice (some ⟨g, 0, none⟩) A.length A.length) A :=
  ⟨_, _, rfl, fun _ => ⟨g, 0, rfl, trivial, (Array.getElem?_eq_some_iff.1 h).1, fun j hj => by
    have h0 := cellsA_get A j hj 0 (by decide)
    have h1 := cellsA_get A j hj 1 (by decide)
    refine ⟨?_, ?_⟩
    · rw [Lib.cell_of_heap h]; simpa using h0
    · rw [Lib.cell_of_heap h]; simpa using h1⟩, Nat.le_refl _⟩
/-- One element without anything but its name, in a block of its own. -/
theorem kid_new {w : World} {g : Nat} {z : Nat × Nat} (n : ByteArray) (h : w.heap[g]? = some (.cells #[.string ⟨#[]⟩, .string n, .slice none 0 0, .slice none 0 0, .string ⟨#[]⟩] 25 z)) : KidsV (fun _ => True) w (.slice (some ⟨g, 0, none⟩) 1 1) [.mk ⟨#[]⟩ n [] [] ⟨#[]⟩] := by
  refine ⟨_, 1, fun _ q => ((#[.string ⟨#[]⟩, .string n, .slice none 0 0, .slice none 0 0, .string ⟨#[]⟩] : Array Value)[q]?).getD undef, rfl, fun _ => ⟨g, 0, rfl, trivial, (Array.getElem?_eq_some_iff.1 h).1, fun j hj q hq => ?_⟩, fun j hj => ?_⟩
  · obtain rfl : j = 0 := by have : j < 1 := hj; omega
    rw [Lib.cell_of_heap h]
    match q, hq with
    | 0, _ => rfl
    | 1, _ => rfl
    | 2, _ => rfl
    | 3, _ => rfl
    | 4, _ => rfl
  · obtain rfl : j = 0 := by have : j < 1 := hj; omega
    exact node_make (atts_none w) (kids_none w)
/-- What the law asks at its end. -/
structure WEnd (w : World) (Q : Nat) (wb : Bool) (wx : World) : Prop where
  ex : ∃ (a b e : ByteArray) (p1 : Option Addr) (n1 c1 : Nat) (p2 : Option Addr) (n2 c2 : Nat) (Z : Nd), AtN w.heap.size w wx Q a b e p1 n1 c1 p2 n2 c2 Z ∧ Z.sm ∧ (mayF Z 1 0).1 = wb ∧ (wb = true → (textT Z ⟨#[]⟩ []).length ≤ 200000)

/-! ### which of them may be -/
theorem may_root {s n t : ByteArray} {A : List Att} {K : List Nd} (hg : goodK K) (hd : depthK K ≤ 31) (hc : countK K ≤ 1999) : (mayF (.mk s n A K t) 1 0).1 = aloneB s n t A K.length := by
  unfold mayF
  cases ha : aloneB s n t A K.length with
  | false => rw [if_pos (.inr (.inr rfl))]
  | true => rw [if_neg (by rintro (h | h | h); omega; omega; cases h), may_goodK K 2 1 hg (by omega) (by omega)]
/-- What is known of the parts of an element of few parts. -/
structure NearP (s n t : ByteArray) (A : List Att) (K : List Nd) : Prop where
  nm : nameL (bl n) = true
  ns : n.size ≤ 6
  sp : Lets (bl s)
  ss : s.size ≤ 3
  tx : Lets (bl t)
  ts : t.size ≤ 12
  tr : trimL (bl t) = bl t
  ab : ∀ a ∈ A, AttB a
  ad : A.Pairwise (fun x y => (bl x.1 == bl y.1) = false)
  al : A.length ≤ 3
  kt : K = [] ∨ bl t = []
  kl : K.length ≤ 3
  kb : ∀ k ∈ K, NearB 1 k
theorem near_p {s n t : ByteArray} {A : List Att} {K : List Nd} (h : NearB 2 (.mk s n A K t)) : NearP s n t A K := by
  cases h with
  | mk d _ _ _ _ _ hn hn2 hnl hs hsl ht htl htr hA hAd hAl hKt hKl hK =>
    rw [bl_size] at hsl htl
    exact ⟨near_nameB hn hn2 (by omega), by rw [← bl_size]; exact hnl, hs, hsl, ht, htl, htr, hA, hAd, hAl, hKt, hKl, hK⟩
theorem NearP.good {s n t : ByteArray} {A : List Att} {K : List Nd} (h : NearP s n t A K) : goodK K ∧ depthK K ≤ 31 ∧ countK K ≤ 1999 ∧ smK K := by
  refine ⟨goodK_of fun k hk => near_good (h.kb k hk), ?_, ?_, smK_of fun k hk => near_sm (h.kb k hk)⟩
  · have := depthK_le (d := 1) K fun k hk => (h.kb k hk).depth
    omega
  · have h1 := countK_le (m := cntB 1) K fun k hk => (h.kb k hk).count
    have h2 := Nat.mul_le_mul_right (cntB 1) h.kl
    have h3 : cntB 1 = 1 := by decide
    rw [h3] at h1 h2
    omega
theorem NearP.atts {s n t : ByteArray} {A : List Att} {K : List Nd} (h : NearP s n t A K) : attsB A = true := near_attsB h.ab h.ad h.al
theorem NearP.kz {s n t : ByteArray} {A : List Att} {K : List Nd} (h : NearP s n t A K) : (decide (t.size = 0) || decide (K.length = 0)) = true := by
  rcases h.kt with rfl | h
  · simp
  · have : t.size = 0 := by rw [← bl_size, h]; rfl
    rw [decide_eq_true this]; rfl
theorem alone_name {s n t T : ByteArray} {A : List Att} {K : List Nd} (h : NearP s n t A K) : aloneB s T t A K.length = nameL (bl T) := by
  unfold aloneB
  rw [letters_ok h.sp, h.atts, letters_ok h.tx, decide_eq_true (trimmed_of h.tr), h.kz]; simp
theorem alone_text {s n t T : ByteArray} {A : List Att} {K : List Nd} (h : NearP s n t A K) : aloneB s n T A ([] : List Nd).length = (lettersB T && decide (trimmed T = T)) := by
  unfold aloneB
  rw [h.nm, letters_ok h.sp, h.atts]; simp
theorem alone_atts {s n t : ByteArray} {A A' : List Att} {K : List Nd} (h : NearP s n t A K) : aloneB s n t A' K.length = attsB A' := by
  unfold aloneB
  rw [h.nm, letters_ok h.sp, letters_ok h.tx, decide_eq_true (trimmed_of h.tr), h.kz]; simp
theorem alone_space {s n t T : ByteArray} {A : List Att} {K : List Nd} (h : NearP s n t A K) : aloneB T n t A K.length = lettersB T := by
  unfold aloneB
  rw [h.nm, h.atts, letters_ok h.tx, decide_eq_true (trimmed_of h.tr), h.kz]; simp
def bV : ByteArray := ⟨#[118]⟩
def bB : ByteArray := ⟨#[98]⟩
theorem atts_name (T : ByteArray) : attsB [(T, bV)] = (nameL (bl T) && !(decide (T = bXmlns))) := by
  have e : lettersB bV = true := letters_ok (lets_one 118 (by decide))
  unfold attsB attsF attB attsF
  rw [e]
  cases nameL (bl T) <;> cases decide (T = bXmlns) <;> rfl
theorem atts_value (T : ByteArray) : attsB [(bB, T)] = lettersB T := by
  have e : nameL (bl bB) = true := by kernel_rfl
  have e2 : decide (bB = bXmlns) = false := by decide
  unfold attsB attsF attB attsF
  rw [e, e2]
  cases lettersB T <;> rfl
theorem atts_twice : attsB [(bB, ⟨#[]⟩), (bB, ⟨#[]⟩)] = false := by
  unfold attsB attsF attsF attB
  simp
theorem alone_both {s n : ByteArray} {A : List Att} : aloneB s n ⟨#[120]⟩ A 1 = false := by
  unfold aloneB
  have e : (decide ((⟨#[120]⟩ : ByteArray).size = 0) || decide (1 = 0)) = false := by decide
  rw [e]; simp
theorem may_kid {s n : ByteArray} {A : List Att} : (mayF (.mk s n A [.mk ⟨#[]⟩ ⟨#[]⟩ [] [] ⟨#[]⟩] ⟨#[]⟩) 1 0).1 = false := by
  have hk : ∀ d c, (mayF (.mk ⟨#[]⟩ ⟨#[]⟩ [] [] ⟨#[]⟩) d c).1 = false := fun d c => by
    have e : aloneB ⟨#[]⟩ ⟨#[]⟩ ⟨#[]⟩ [] ([] : List Nd).length = false := by
      unfold aloneB
      have : nameL (bl ⟨#[]⟩) = false := by kernel_rfl
      rw [this]; rfl
    unfold mayF
    rw [if_pos (.inr (.inr e))]
  unfold mayF
  split
  · rfl
  · rw [mayK, if_neg (by rw [hk]; decide)]

/-! ### how long their texts are -/
theorem len_el (s n t : ByteArray) (A : List Att) (K : List Nd) : (textT (.mk s n A K t) ⟨#[]⟩ []).length ≤ 40 + 6 * s.size + 2 * n.size + 6 * t.size + (elA A).length + (elK s [] K).length := by
  rw [el_text]
  have h1 := closeL_len (bl s)
  have h2 := closeL_len (bl t)
  rw [bl_size] at h1 h2
  have hX : (elX s ⟨#[]⟩).length ≤ 10 + 6 * s.size := by
    unfold elX atT
    split
    · simp
    · simp only [List.length_append, List.length_cons, List.length_nil]
      have : bXm.length = 5 := rfl
      omega
  have hE : (elE n).length = n.size + 4 := by unfold elE; simp only [List.length_append, List.length_cons, List.length_nil, bl_size]
  have hH : (elH n []).length = n.size + 1 := by unfold elH; simp only [List.length_append, List.length_cons, List.length_nil, bl_size]; omega
  simp only [List.length_append]
  split
  · split
    · simp only [List.length_cons, List.length_nil]; omega
    · simp only [List.length_append, List.length_cons]; omega
  · simp only [List.length_append, List.length_cons, List.length_nil]; omega
theorem len_elA {m : Nat} : ∀ A : List Att, (∀ a ∈ A, a.1.size + 6 * a.2.size ≤ m) → (elA A).length ≤ A.length * (m + 4)
  | [], _ => by simp [elA]
  | a :: A, h => by
    have h1 := h a (List.mem_cons_self ..)
    have h2 := len_elA A fun x hx => h x (List.mem_cons_of_mem _ hx)
    have h3 := closeL_len (bl a.2)
    rw [bl_size] at h3
    have e : elA (a :: A) = ([32] ++ atT (bl a.1) (bl a.2)) ++ elA A := rfl
    rw [e, List.length_append, List.length_cons, Nat.succ_mul]
    unfold atT
    simp only [List.length_append, List.length_cons, List.length_nil, bl_size]
    omega
theorem len_elK {m : Nat} (s : ByteArray) : ∀ K : List Nd, (∀ k ∈ K, (textT k s [32]).length ≤ m) → (elK s [] K).length ≤ K.length * m
  | [], _ => by simp [elK]
  | k :: K, h => by
    have h1 := h k (List.mem_cons_self ..)
    have h2 := len_elK s K fun x hx => h x (List.mem_cons_of_mem _ hx)
    have e : elK s [] (k :: K) = textT k s [32] ++ elK s [] K := rfl
    rw [e, List.length_append, List.length_cons, Nat.succ_mul]
    omega
theorem NearP.elK {s n t : ByteArray} {A : List Att} {K : List Nd} (h : NearP s n t A K) (s' : ByteArray) : (elK s' [] K).length ≤ 3000 := by
  have h1 := len_elK (m := 900) s' K fun k hk => by
    have := (h.kb k hk).len s' [32]
    have e : lenB 1 ([32] : List UInt8).length ≤ 800 := by decide
    unfold textT
    simp only [List.length_append, List.length_cons, List.length_nil] at this e ⊢
    omega
  have h2 := Nat.mul_le_mul_right 900 h.kl
  omega
theorem NearP.elA {s n t : ByteArray} {A : List Att} {K : List Nd} (h : NearP s n t A K) : (elA A).length ≤ 300 := by
  have h1 := len_elA (m := 61) A fun a ha => by
    have h1 := (h.ab a ha).len
    have h2 := (h.ab a ha).vlen
    rw [bl_size] at h1 h2
    omega
  have h2 := Nat.mul_le_mul_right 65 h.al
  omega

theorem wend {w wx : World} {Q : Nat} {a b e : ByteArray} {p1 : Option Addr} {n1 c1 : Nat} {p2 : Option Addr} {n2 c2 : Nat} {A : List Att} {K : List Nd} {wb : Bool} {z : Nat × Nat} (hX : wx.heap[Q]? = some (.cells #[.string a, .string b, .slice p1 n1 c1, .slice p2 n2 c2, .string e] 25 z))
    (hatt : AttV (fun _ => True) wx (.slice p1 n1 c1) A) (hkid : KidsV (fun _ => True) wx (.slice p2 n2 c2) K) (hB : Below w.heap.size w wx) (hE : EntV wx) (hT : Tabs wx) (hsm : (Nd.mk a b A K e).sm) (hm : (mayF (.mk a b A K e) 1 0).1 = wb)
    (hl : wb = true → (textT (.mk a b A K e) ⟨#[]⟩ []).length ≤ 200000) : WEnd w Q wb wx :=
  ⟨a, b, e, p1, n1, c1, p2, n2, c2, .mk a b A K e, ⟨hB, (Array.getElem?_eq_some_iff.1 hX).1, by rw [Lib.cell_of_heap hX]; rfl, by rw [Lib.cell_of_heap hX]; rfl, by rw [Lib.cell_of_heap hX]; rfl, by rw [Lib.cell_of_heap hX]; rfl, by rw [Lib.cell_of_heap hX]; rfl, node_make hatt hkid, hE, hT⟩, hsm, hm, hl⟩
set_option maxHeartbeats 16000000 in
theorem may07_any (v : Value) (kind : Int) (s : ByteArray) (w : World) (hE : EntV w) (hT : Tabs w) (hv : ∃ X, NodeV (fun _ => True) w v X) :
    Calls Tryd.prog 3 #[v, .int .i64 kind, .string s] w fun e w' => e = .returned (.bool true) ∧ Below w.heap.size w w' := by
  obtain ⟨X, hX⟩ := hv
  obtain ⟨xsp, xnm, xtx, xa, xan, xac, xk, xkn, xkc, rfl⟩ := form06 hX
  have hA1 := (Below.refl w.heap.size w).alloc (Nat.le_refl _) (.cells #[.string xsp, .string xnm, .slice xa xan xac, .slice xk xkn xkc, .string xtx] 25)
  obtain ⟨w0, hw0⟩ : ∃ w0, w.alloc (.cells #[.string xsp, .string xnm, .slice xa xan xac, .slice xk xkn xkc, .string xtx] 25) = w0 := ⟨_, rfl⟩
  have hc0 : ∀ q v, (#[.string xsp, .string xnm, .slice xa xan xac, .slice xk xkn xkc, .string xtx] : Array Value)[q]? = some v → w0.cell? ⟨w.heap.size, q, none⟩ = some v := fun q v h => by
    rw [← hw0, Lib.cell_of_heap (heap_alloc_new w _)]; exact h
  have x0 := hc0 0 _ rfl
  have x1 := hc0 1 _ rfl
  have x2 := hc0 2 _ rfl
  have x3 := hc0 3 _ rfl
  have x4 := hc0 4 _ rfl
  rw [hw0] at hA1
  have HN := Lib.hid (near_spec 1 2 _ X w0 (by decide) (by decide) (by decide) (hX.to (P' := fun _ => True) hA1.size fun g _ hg => ⟨trivial, hA1.block g hg⟩))
  have HA1 := Lib.hid hA1
  have HE := Lib.hid (hE.below hA1)
  have HT := Lib.hid (hT.below hA1)
  obtain ⟨k, hk, hmask⟩ := mask_i64 kind 3 (by decide) 7 (by decide)
  obtain ⟨m, hm1, hm2, hm3, hmi, hmn⟩ := min8 s.size 9
  have hmI : min (s.size : Int) 9 = m := by have := hmi.out; omega
  obtain ⟨T, hT'⟩ : ∃ T, s.extract 0 m = T := ⟨_, rfl⟩
  have hTs : T.size ≤ 9 := by rw [← bl_size, ← hT', cut_bl, List.length_take, bl_size]; omega
  clear hA1 hX hE hT hc0
  go_enter Tryd.func3, Tryd.ntmps3
  go_wp2_with fail
  refine HN.out.mono ?_
  rintro e w1 ⟨v1, y, rfl, hy, hyB, hb1⟩
  obtain ⟨ysp, ynm, ytx, YA, YK, va, vk, rfl, rfl, hatt, hkid⟩ := node_parts hy
  have hatt0 := hatt
  have hkid0 := hkid
  obtain ⟨ya, yac, rfl, _, hyc⟩ := hatt0
  obtain ⟨yk, ykc, _, rfl, _, _⟩ := hkid0
  obtain ⟨Q, hQ⟩ : ∃ Q, w1.heap.size = Q := ⟨_, rfl⟩
  have hn1 := (Below.refl w1.heap.size w1).alloc (Nat.le_refl _) (.cells #[.string ysp, .string ynm, .slice ya YA.length yac, .slice yk YK.length ykc, .string ytx] 25)
  have hX1 := heap_alloc_new w1 (.cells #[.string ysp, .string ynm, .slice ya YA.length yac, .slice yk YK.length ykc, .string ytx] 25)
  obtain ⟨W1, hW1⟩ : ∃ W1, w1.alloc (.cells #[.string ysp, .string ynm, .slice ya YA.length yac, .slice yk YK.length ykc, .string ytx] 25) = W1 := ⟨_, rfl⟩
  rw [hW1] at hn1 hX1
  have hE1 := HE.out.below hb1
  have hT1 := HT.out.below hb1
  rw [hQ] at hn1 hX1
  have HATT := Lib.hid (fun (wx : World) (h : Below Q w1 wx) => hatt.to (P' := fun _ => True) h.size fun g _ hg => ⟨trivial, h.block g (by omega)⟩)
  have HKID := Lib.hid (fun (wx : World) (h : Below Q w1 wx) => hkid.to (P' := fun _ => True) h.size fun g _ hg => ⟨trivial, h.block g (by omega)⟩)
  have HEV := Lib.hid (fun (wx : World) (h : Below Q w1 wx) => hE1.below (by rw [hQ]; exact h))
  have HTV := Lib.hid (fun (wx : World) (h : Below Q w1 wx) => hT1.below (by rw [hQ]; exact h))
  have HZ := Lib.hid (fun (wx : World) (h : Below Q w1 wx) => show Q ≤ wx.heap.size by rw [← hQ]; exact h.size)
  have HBQ := Lib.hid (fun (wx : World) (h : Below Q w1 wx) => (HA1.out.trans (hb1.mono HA1.out.size)).trans (h.mono (show w.heap.size ≤ Q by rw [← hQ]; exact Nat.le_trans HA1.out.size hb1.size)))
  have HB1 := Lib.hid hn1
  have HX1 := Lib.hid hX1
  have HNP := Lib.hid (near_p hyB)
  clear hy hyB hb1 hn1 hX1 hE1 hT1 hatt hkid hyc x0 x1 x2 x3 x4 HN hw0 HA1 HE HT hm3 hmi hmn
  have hkI : (k : Int) < 8 := by omega
  go_upto_block 0 with fail
  go_cut [9] (fun u wx => ∃ wb, u = .bool wb ∧ Hid (WEnd w Q wb wx))
  case first =>
    have y0 := Lib.cell_of_heap HX1.out 0
    have y1 := Lib.cell_of_heap HX1.out 1
    have y2 := Lib.cell_of_heap HX1.out 2
    have y3 := Lib.cell_of_heap HX1.out 3
    have y4 := Lib.cell_of_heap HX1.out 4
    simp only [List.getElem?_toArray, List.getElem?_cons_zero, List.getElem?_cons_succ] at y0 y1 y2 y3 y4
    have f0 := Lib.frozen_of_heap HX1.out 0
    have f1 := Lib.frozen_of_heap HX1.out 1
    have f2 := Lib.frozen_of_heap HX1.out 2
    have f3 := Lib.frozen_of_heap HX1.out 3
    have f4 := Lib.frozen_of_heap HX1.out 4
    match k, hk with
    | 0, _ =>
      have hb0 := HB1.out
      have hX := HX1.out
      have hq0 := (Array.getElem?_eq_some_iff.1 hX).1
      have hb0 := hb0.trans ((Below.refl Q (W1)).setCell (p := ⟨Q, 1, none⟩) (Nat.le_refl _) (.string T))
      have hX := heap_put (o := 1) (.string T) hX
      have CC := Lib.hid (rname T ((W1).setCell ⟨Q, 1, none⟩ (.string T)) (by omega))
      have HB2 := Lib.hid hb0
      have HX2 := Lib.hid hX
      clear hb0 hX hq0
      go_wp2_with fail
      refine CC.out.mono ?_
      rintro e w3 ⟨rfl, hb⟩
      have hb3 := HB2.out.trans (hb.mono (HZ.out _ HB2.out))
      have hX3 := (hb.block Q (Array.getElem?_eq_some_iff.1 HX2.out).1).trans HX2.out
      have NP := HNP.out
      have HF := Lib.hid (wend (wb := nameL (bl T)) (K := YK) (A := YA) hX3 (HATT.out w3 hb3) (HKID.out w3 hb3) (HBQ.out w3 hb3) (HEV.out w3 hb3) (HTV.out w3 hb3)
        ⟨⟨by have := NP.ss; omega, by omega, by have := NP.ts; omega, near_smA NP.ab⟩, NP.good.2.2.2⟩ ((may_root NP.good.1 NP.good.2.1 NP.good.2.2.1).trans (alone_name NP)) (fun _ => Nat.le_trans (len_el _ _ _ _ _) (by have := NP.ss; have := NP.ns; have := NP.ts; have := NP.elA; have := NP.elK ysp; omega)))
      clear hb hb3 hX3 NP CC
      go_wp2_with fail
      go_meet
      exact ⟨_, rfl, HF⟩
    | 1, _ =>
      have hb0 := HB1.out
      have hX := HX1.out
      have hq0 := (Array.getElem?_eq_some_iff.1 hX).1
      have hb0 := hb0.trans ((Below.refl Q (W1)).setCell (p := ⟨Q, 3, none⟩) (Nat.le_refl _) (.slice none 0 0))
      have hX := heap_put (o := 3) (.slice none 0 0) hX
      have hb0 := hb0.trans ((Below.refl Q ((W1).setCell ⟨Q, 3, none⟩ (.slice none 0 0))).setCell (p := ⟨Q, 4, none⟩) (Nat.le_refl _) (.string T))
      have hX := heap_put (o := 4) (.string T) hX
      have CC := Lib.hid (rtext T (((W1).setCell ⟨Q, 3, none⟩ (.slice none 0 0)).setCell ⟨Q, 4, none⟩ (.string T)) (by omega))
      have HB2 := Lib.hid hb0
      have HX2 := Lib.hid hX
      clear hb0 hX hq0
      obtain ⟨x, hx⟩ : ∃ x, textL (bl T) = x := ⟨_, rfl⟩
      rw [hx] at CC
      go_wp2_with fail
      refine CC.out.mono ?_
      rintro e w3 ⟨rfl, hb⟩
      have hb3 := HB2.out.trans (hb.mono (HZ.out _ HB2.out))
      have hX3 := (hb.block Q (Array.getElem?_eq_some_iff.1 HX2.out).1).trans HX2.out
      have NP := HNP.out
      by_cases hlt : x < 0
      · have hl' : decide (x < 0) = true := decide_eq_true hlt
        have HL := Lib.hid (show lettersB T = true by unfold lettersB; rw [hx]; exact hl')
        have CT := Lib.hid (rtrim T w3 (by omega))
        obtain ⟨R, hR⟩ : ∃ R, trimmed T = R := ⟨_, rfl⟩
        rw [hR] at CT
        have HR := Lib.hid hR
        have HB3 := Lib.hid hb3
        have HX3 := Lib.hid hX3
        clear hb hb3 hX3 NP CC hx hR
        go_wp2_with fail
        refine CT.out.mono ?_
        rintro e w4 ⟨rfl, hb⟩
        have hb4 := HB3.out.trans (hb.mono (HZ.out _ HB3.out))
        have hX4 := (hb.block Q (Array.getElem?_eq_some_iff.1 HX3.out).1).trans HX3.out
        have NP := HNP.out
        have HF := Lib.hid (fun wb (hwb : decide (R = T) = wb) => wend (wb := wb) (K := []) (A := YA) hX4 (HATT.out w4 hb4) (kids_none w4) (HBQ.out w4 hb4) (HEV.out w4 hb4) (HTV.out w4 hb4)
          ⟨⟨by have := NP.ss; omega, by have := NP.ns; omega, by omega, near_smA NP.ab⟩, trivial⟩ ((may_root (K := []) trivial (by decide) (by decide)).trans ((alone_text NP).trans (by rw [HL.out, HR.out, hwb]; rfl)))
          (fun _ => Nat.le_trans (len_el _ _ _ _ _) (by have := NP.ss; have := NP.ns; have := NP.elA; have e : (elK ysp [] []).length = 0 := rfl; omega)))
        clear hb hb4 hX4 NP CT
        by_cases hRT : R = T
        · have q : (R.toList == T.toList) = true := by rw [hRT]; simp
          have HF2 := Lib.hid (HF.out true (decide_eq_true hRT))
          go_wp2_with fail
          go_meet
          exact ⟨_, rfl, HF2⟩
        · have q : (R.toList == T.toList) = false := beq_eq_false_iff_ne.2 fun e => hRT (tl_inj e)
          have HF2 := Lib.hid (HF.out false (decide_eq_false hRT))
          go_wp2_with fail
          go_meet
          exact ⟨_, rfl, HF2⟩
      · have hl' : decide (x < 0) = false := decide_eq_false hlt
        have HL := Lib.hid (show lettersB T = false by unfold lettersB; rw [hx]; exact hl')
        have HF := Lib.hid (wend (wb := false) (K := []) (A := YA) hX3 (HATT.out w3 hb3) (kids_none w3) (HBQ.out w3 hb3) (HEV.out w3 hb3) (HTV.out w3 hb3)
          ⟨⟨by have := NP.ss; omega, by have := NP.ns; omega, by omega, near_smA NP.ab⟩, trivial⟩ ((may_root (K := []) trivial (by decide) (by decide)).trans ((alone_text NP).trans (by rw [HL.out]; rfl)))
          (fun h => by cases h))
        clear hb hb3 hX3 NP CC hx
        go_wp2_with fail
        go_meet
        exact ⟨_, rfl, HF⟩
    | 2, _ =>
      have hg0 := heap_alloc_new W1 (.cells #[.string T, .string bV] 31)
      have hX := (((Below.refl W1.heap.size W1).alloc (Nat.le_refl _) (.cells #[.string T, .string bV] 31)).block Q (Array.getElem?_eq_some_iff.1 HX1.out).1).trans HX1.out
      have g1 := Lib.frozen_of_heap hX 2
      have c1 := Lib.cell_of_heap hX 2
      simp only [List.getElem?_toArray, List.getElem?_cons_zero, List.getElem?_cons_succ] at c1
      have hb0 := HB1.out.alloc (HZ.out _ HB1.out) (.cells #[.string T, .string bV] 31)
      have hgQ : ¬ Q = W1.heap.size := fun e => Nat.lt_irrefl _ (e ▸ (Array.getElem?_eq_some_iff.1 HX1.out).1)
      have hb0 := hb0.trans ((Below.refl Q (W1.alloc (.cells #[.string T, .string bV] 31))).setCell (p := ⟨Q, 2, none⟩) (Nat.le_refl _) (.slice (some ⟨W1.heap.size, 0, none⟩) 1 1))
      have hX := heap_put (o := 2) (.slice (some ⟨W1.heap.size, 0, none⟩) 1 1) hX
      have hg0 := (Below.heap_setCell (W1.alloc (.cells #[.string T, .string bV] 31)) ⟨Q, 2, none⟩ (.slice (some ⟨W1.heap.size, 0, none⟩) 1 1) W1.heap.size (fun e => hgQ e.symm)).trans hg0
      have CC := Lib.hid (rname T ((W1.alloc (.cells #[.string T, .string bV] 31)).setCell ⟨Q, 2, none⟩ (.slice (some ⟨W1.heap.size, 0, none⟩) 1 1)) (by omega))
      have HB2 := Lib.hid hb0
      have HX2 := Lib.hid hX
      have HG2 := Lib.hid hg0
      clear hb0 hX hg0 hgQ
      dsimp only [bV] at CC HB2 HX2 HG2 g1 c1
      go_wp2_with fail
      refine CC.out.mono ?_
      rintro e w3 ⟨rfl, hb⟩
      have hb3 := HB2.out.trans (hb.mono (HZ.out _ HB2.out))
      have hX3 := (hb.block Q (Array.getElem?_eq_some_iff.1 HX2.out).1).trans HX2.out
      have hg3 := (hb.block W1.heap.size (Array.getElem?_eq_some_iff.1 HG2.out).1).trans HG2.out
      have NP := HNP.out
      have HF := Lib.hid (wend (wb := nameL (bl T) && !(decide (T = bXmlns))) (K := YK) (A := [(T, bV)]) hX3 (atts_new [(T, bV)] hg3) (HKID.out w3 hb3) (HBQ.out w3 hb3) (HEV.out w3 hb3) (HTV.out w3 hb3)
        ⟨⟨by have := NP.ss; omega, by have := NP.ns; omega, by have := NP.ts; omega, fun a ha => by rw [List.mem_singleton.1 ha]; exact ⟨by show T.size ≤ _; omega, by show (1 : Nat) ≤ _; decide⟩⟩, NP.good.2.2.2⟩ ((may_root NP.good.1 NP.good.2.1 NP.good.2.2.1).trans ((alone_atts NP).trans (atts_name T))) (fun _ => Nat.le_trans (len_el _ _ _ _ _) (by have := NP.ss; have := NP.ns; have := NP.ts; have := NP.elK ysp; have := len_elA (m := 70) [(T, bV)] (fun a ha => by rw [List.mem_singleton.1 ha]; show T.size + 6 * 1 ≤ _; omega); have e : ([(T, bV)] : List Att).length = 1 := rfl; rw [e] at this; omega)))
      clear hb hb3 hX3 hg3 NP CC
      cases hn : nameL (bl T) with
      | false =>
        rw [hn] at HF
        clear hn
        go_wp2_with fail
        go_meet
        exact ⟨_, rfl, HF⟩
      | true =>
        rw [hn] at HF
        clear hn
        by_cases hx : T = bXmlns
        · have q1 : (T.toList == bXmlns.toList) = true := by rw [hx]; simp
          rw [xmlns_list] at q1
          rw [decide_eq_true hx] at HF
          clear hx
          go_wp2_with fail
          go_meet
          exact ⟨_, rfl, HF⟩
        · have q1 : (T.toList == bXmlns.toList) = false := beq_eq_false_iff_ne.2 fun e => hx (tl_inj e)
          rw [xmlns_list] at q1
          rw [decide_eq_false hx] at HF
          clear hx
          go_wp2_with fail
          go_meet
          exact ⟨_, rfl, HF⟩
    | 3, _ =>
      have hg0 := heap_alloc_new W1 (.cells #[.string bB, .string T] 31)
      have hX := (((Below.refl W1.heap.size W1).alloc (Nat.le_refl _) (.cells #[.string bB, .string T] 31)).block Q (Array.getElem?_eq_some_iff.1 HX1.out).1).trans HX1.out
      have g1 := Lib.frozen_of_heap hX 2
      have c1 := Lib.cell_of_heap hX 2
      simp only [List.getElem?_toArray, List.getElem?_cons_zero, List.getElem?_cons_succ] at c1
      have hb0 := HB1.out.alloc (HZ.out _ HB1.out) (.cells #[.string bB, .string T] 31)
      have hgQ : ¬ Q = W1.heap.size := fun e => Nat.lt_irrefl _ (e ▸ (Array.getElem?_eq_some_iff.1 HX1.out).1)
      have hb0 := hb0.trans ((Below.refl Q (W1.alloc (.cells #[.string bB, .string T] 31))).setCell (p := ⟨Q, 2, none⟩) (Nat.le_refl _) (.slice (some ⟨W1.heap.size, 0, none⟩) 1 1))
      have hX := heap_put (o := 2) (.slice (some ⟨W1.heap.size, 0, none⟩) 1 1) hX
      have hg0 := (Below.heap_setCell (W1.alloc (.cells #[.string bB, .string T] 31)) ⟨Q, 2, none⟩ (.slice (some ⟨W1.heap.size, 0, none⟩) 1 1) W1.heap.size (fun e => hgQ e.symm)).trans hg0
      have CC := Lib.hid (rtext T ((W1.alloc (.cells #[.string bB, .string T] 31)).setCell ⟨Q, 2, none⟩ (.slice (some ⟨W1.heap.size, 0, none⟩) 1 1)) (by omega))
      have HB2 := Lib.hid hb0
      have HX2 := Lib.hid hX
      have HG2 := Lib.hid hg0
      clear hb0 hX hg0 hgQ
      dsimp only [bB] at CC HB2 HX2 HG2 g1 c1
      obtain ⟨x, hx⟩ : ∃ x, textL (bl T) = x := ⟨_, rfl⟩
      rw [hx] at CC
      go_wp2_with fail
      refine CC.out.mono ?_
      rintro e w3 ⟨rfl, hb⟩
      have hb3 := HB2.out.trans (hb.mono (HZ.out _ HB2.out))
      have hX3 := (hb.block Q (Array.getElem?_eq_some_iff.1 HX2.out).1).trans HX2.out
      have hg3 := (hb.block W1.heap.size (Array.getElem?_eq_some_iff.1 HG2.out).1).trans HG2.out
      have NP := HNP.out
      have HF := Lib.hid (wend (wb := decide (x < 0)) (K := YK) (A := [(bB, T)]) hX3 (atts_new [(bB, T)] hg3) (HKID.out w3 hb3) (HBQ.out w3 hb3) (HEV.out w3 hb3) (HTV.out w3 hb3)
        ⟨⟨by have := NP.ss; omega, by have := NP.ns; omega, by have := NP.ts; omega, fun a ha => by rw [List.mem_singleton.1 ha]; exact ⟨by show (1 : Nat) ≤ 1000000; decide, by show T.size ≤ _; omega⟩⟩, NP.good.2.2.2⟩ ((may_root NP.good.1 NP.good.2.1 NP.good.2.2.1).trans ((alone_atts NP).trans ((atts_value T).trans (by unfold lettersB; rw [hx])))) (fun _ => Nat.le_trans (len_el _ _ _ _ _) (by have := NP.ss; have := NP.ns; have := NP.ts; have := NP.elK ysp; have := len_elA (m := 70) [(bB, T)] (fun a ha => by rw [List.mem_singleton.1 ha]; show 1 + 6 * T.size ≤ _; omega); have e : ([(bB, T)] : List Att).length = 1 := rfl; rw [e] at this; omega)))
      clear hb hb3 hX3 hg3 NP CC hx
      go_wp2_with fail
      go_meet
      exact ⟨_, rfl, HF⟩
    | 4, _ =>
      have hg0 := heap_alloc_new W1 (.cells #[.string bB, .string ⟨#[]⟩, .string bB, .string ⟨#[]⟩] 31)
      have hX := (((Below.refl W1.heap.size W1).alloc (Nat.le_refl _) (.cells #[.string bB, .string ⟨#[]⟩, .string bB, .string ⟨#[]⟩] 31)).block Q (Array.getElem?_eq_some_iff.1 HX1.out).1).trans HX1.out
      have g1 := Lib.frozen_of_heap hX 2
      have c1 := Lib.cell_of_heap hX 2
      simp only [List.getElem?_toArray, List.getElem?_cons_zero, List.getElem?_cons_succ] at c1
      have hb0 := HB1.out.alloc (HZ.out _ HB1.out) (.cells #[.string bB, .string ⟨#[]⟩, .string bB, .string ⟨#[]⟩] 31)
      have hgQ : ¬ Q = W1.heap.size := fun e => Nat.lt_irrefl _ (e ▸ (Array.getElem?_eq_some_iff.1 HX1.out).1)
      have hb0 := hb0.trans ((Below.refl Q (W1.alloc (.cells #[.string bB, .string ⟨#[]⟩, .string bB, .string ⟨#[]⟩] 31))).setCell (p := ⟨Q, 2, none⟩) (Nat.le_refl _) (.slice (some ⟨W1.heap.size, 0, none⟩) 2 2))
      have hX := heap_put (o := 2) (.slice (some ⟨W1.heap.size, 0, none⟩) 2 2) hX
      have hg0 := (Below.heap_setCell (W1.alloc (.cells #[.string bB, .string ⟨#[]⟩, .string bB, .string ⟨#[]⟩] 31)) ⟨Q, 2, none⟩ (.slice (some ⟨W1.heap.size, 0, none⟩) 2 2) W1.heap.size (fun e => hgQ e.symm)).trans hg0
      obtain ⟨w3, hw3⟩ : ∃ w3, (W1.alloc (.cells #[.string bB, .string ⟨#[]⟩, .string bB, .string ⟨#[]⟩] 31)).setCell ⟨Q, 2, none⟩ (.slice (some ⟨W1.heap.size, 0, none⟩) 2 2) = w3 := ⟨_, rfl⟩
      rw [hw3] at hb0 hX hg0
      have NP := HNP.out
      have HF := Lib.hid (wend (wb := false) (K := YK) (A := [(bB, ⟨#[]⟩), (bB, ⟨#[]⟩)]) hX (atts_new [(bB, ⟨#[]⟩), (bB, ⟨#[]⟩)] hg0) (HKID.out w3 hb0) (HBQ.out w3 hb0) (HEV.out w3 hb0) (HTV.out w3 hb0)
        ⟨⟨by have := NP.ss; omega, by have := NP.ns; omega, by have := NP.ts; omega, fun a ha => by simp at ha; rw [ha]; exact ⟨by decide, by decide⟩⟩, NP.good.2.2.2⟩ ((may_root NP.good.1 NP.good.2.1 NP.good.2.2.1).trans ((alone_atts NP).trans atts_twice)) (fun h => by cases h))
      dsimp only [bB] at hw3 g1 c1
      clear hb0 hX hg0 hgQ NP
      go_wp2_with fail
      go_meet
      exact ⟨_, rfl, HF⟩
    | 5, _ =>
      have hg0 := heap_alloc_new W1 (.cells #[.string ⟨#[]⟩, .string ⟨#[107]⟩, .slice none 0 0, .slice none 0 0, .string ⟨#[]⟩] 25)
      have hX := (((Below.refl W1.heap.size W1).alloc (Nat.le_refl _) (.cells #[.string ⟨#[]⟩, .string ⟨#[107]⟩, .slice none 0 0, .slice none 0 0, .string ⟨#[]⟩] 25)).block Q (Array.getElem?_eq_some_iff.1 HX1.out).1).trans HX1.out
      have g1 := Lib.frozen_of_heap hX 3
      have c1 := Lib.cell_of_heap hX 3
      simp only [List.getElem?_toArray, List.getElem?_cons_zero, List.getElem?_cons_succ] at c1
      have hb0 := HB1.out.alloc (HZ.out _ HB1.out) (.cells #[.string ⟨#[]⟩, .string ⟨#[107]⟩, .slice none 0 0, .slice none 0 0, .string ⟨#[]⟩] 25)
      have hgQ : ¬ Q = W1.heap.size := fun e => Nat.lt_irrefl _ (e ▸ (Array.getElem?_eq_some_iff.1 HX1.out).1)
      have hb0 := hb0.trans ((Below.refl Q (W1.alloc (.cells #[.string ⟨#[]⟩, .string ⟨#[107]⟩, .slice none 0 0, .slice none 0 0, .string ⟨#[]⟩] 25))).setCell (p := ⟨Q, 3, none⟩) (Nat.le_refl _) (.slice (some ⟨W1.heap.size, 0, none⟩) 1 1))
      have hX := heap_put (o := 3) (.slice (some ⟨W1.heap.size, 0, none⟩) 1 1) hX
      have g2 := Lib.frozen_of_heap hX 4
      have c2 := Lib.cell_of_heap hX 4
      simp only [List.setIfInBounds_toArray, List.set_cons_succ, List.set_cons_zero, List.getElem?_toArray, List.getElem?_cons_zero, List.getElem?_cons_succ] at c2
      have hg0 := (Below.heap_setCell (W1.alloc (.cells #[.string ⟨#[]⟩, .string ⟨#[107]⟩, .slice none 0 0, .slice none 0 0, .string ⟨#[]⟩] 25)) ⟨Q, 3, none⟩ (.slice (some ⟨W1.heap.size, 0, none⟩) 1 1) W1.heap.size (fun e => hgQ e.symm)).trans hg0
      have hb0 := hb0.trans ((Below.refl Q ((W1.alloc (.cells #[.string ⟨#[]⟩, .string ⟨#[107]⟩, .slice none 0 0, .slice none 0 0, .string ⟨#[]⟩] 25)).setCell ⟨Q, 3, none⟩ (.slice (some ⟨W1.heap.size, 0, none⟩) 1 1))).setCell (p := ⟨Q, 4, none⟩) (Nat.le_refl _) (.string ⟨#[120]⟩))
      have hX := heap_put (o := 4) (.string ⟨#[120]⟩) hX
      have hg0 := (Below.heap_setCell ((W1.alloc (.cells #[.string ⟨#[]⟩, .string ⟨#[107]⟩, .slice none 0 0, .slice none 0 0, .string ⟨#[]⟩] 25)).setCell ⟨Q, 3, none⟩ (.slice (some ⟨W1.heap.size, 0, none⟩) 1 1)) ⟨Q, 4, none⟩ (.string ⟨#[120]⟩) W1.heap.size (fun e => hgQ e.symm)).trans hg0
      obtain ⟨w3, hw3⟩ : ∃ w3, ((W1.alloc (.cells #[.string ⟨#[]⟩, .string ⟨#[107]⟩, .slice none 0 0, .slice none 0 0, .string ⟨#[]⟩] 25)).setCell ⟨Q, 3, none⟩ (.slice (some ⟨W1.heap.size, 0, none⟩) 1 1)).setCell ⟨Q, 4, none⟩ (.string ⟨#[120]⟩) = w3 := ⟨_, rfl⟩
      rw [hw3] at hb0 hX hg0
      have NP := HNP.out
      have HF := Lib.hid (wend (wb := false) (K := [.mk ⟨#[]⟩ ⟨#[107]⟩ [] [] ⟨#[]⟩]) (A := YA) hX (HATT.out w3 hb0) (kid_new ⟨#[107]⟩ hg0) (HBQ.out w3 hb0) (HEV.out w3 hb0) (HTV.out w3 hb0)
        ⟨⟨by have := NP.ss; omega, by have := NP.ns; omega, by decide, near_smA NP.ab⟩, ⟨⟨⟨by decide, by decide, by decide, fun _ h => by cases h⟩, trivial⟩, trivial⟩⟩ (by unfold mayF; rw [if_pos (.inr (.inr alone_both))]) (fun h => by cases h))
      clear hb0 hX hg0 hgQ NP
      go_wp2_with fail
      go_meet
      exact ⟨_, rfl, HF⟩
    | 6, _ =>
      have hg0 := heap_alloc_new W1 (.cells #[.string ⟨#[]⟩, .string ⟨#[]⟩, .slice none 0 0, .slice none 0 0, .string ⟨#[]⟩] 25)
      have hX := (((Below.refl W1.heap.size W1).alloc (Nat.le_refl _) (.cells #[.string ⟨#[]⟩, .string ⟨#[]⟩, .slice none 0 0, .slice none 0 0, .string ⟨#[]⟩] 25)).block Q (Array.getElem?_eq_some_iff.1 HX1.out).1).trans HX1.out
      have g1 := Lib.frozen_of_heap hX 3
      have c1 := Lib.cell_of_heap hX 3
      simp only [List.getElem?_toArray, List.getElem?_cons_zero, List.getElem?_cons_succ] at c1
      have hb0 := HB1.out.alloc (HZ.out _ HB1.out) (.cells #[.string ⟨#[]⟩, .string ⟨#[]⟩, .slice none 0 0, .slice none 0 0, .string ⟨#[]⟩] 25)
      have hgQ : ¬ Q = W1.heap.size := fun e => Nat.lt_irrefl _ (e ▸ (Array.getElem?_eq_some_iff.1 HX1.out).1)
      have hb0 := hb0.trans ((Below.refl Q (W1.alloc (.cells #[.string ⟨#[]⟩, .string ⟨#[]⟩, .slice none 0 0, .slice none 0 0, .string ⟨#[]⟩] 25))).setCell (p := ⟨Q, 3, none⟩) (Nat.le_refl _) (.slice (some ⟨W1.heap.size, 0, none⟩) 1 1))
      have hX := heap_put (o := 3) (.slice (some ⟨W1.heap.size, 0, none⟩) 1 1) hX
      have g2 := Lib.frozen_of_heap hX 4
      have c2 := Lib.cell_of_heap hX 4
      simp only [List.setIfInBounds_toArray, List.set_cons_succ, List.set_cons_zero, List.getElem?_toArray, List.getElem?_cons_zero, List.getElem?_cons_succ] at c2
      have hg0 := (Below.heap_setCell (W1.alloc (.cells #[.string ⟨#[]⟩, .string ⟨#[]⟩, .slice none 0 0, .slice none 0 0, .string ⟨#[]⟩] 25)) ⟨Q, 3, none⟩ (.slice (some ⟨W1.heap.size, 0, none⟩) 1 1) W1.heap.size (fun e => hgQ e.symm)).trans hg0
      have hb0 := hb0.trans ((Below.refl Q ((W1.alloc (.cells #[.string ⟨#[]⟩, .string ⟨#[]⟩, .slice none 0 0, .slice none 0 0, .string ⟨#[]⟩] 25)).setCell ⟨Q, 3, none⟩ (.slice (some ⟨W1.heap.size, 0, none⟩) 1 1))).setCell (p := ⟨Q, 4, none⟩) (Nat.le_refl _) (.string ⟨#[]⟩))
      have hX := heap_put (o := 4) (.string ⟨#[]⟩) hX
      have hg0 := (Below.heap_setCell ((W1.alloc (.cells #[.string ⟨#[]⟩, .string ⟨#[]⟩, .slice none 0 0, .slice none 0 0, .string ⟨#[]⟩] 25)).setCell ⟨Q, 3, none⟩ (.slice (some ⟨W1.heap.size, 0, none⟩) 1 1)) ⟨Q, 4, none⟩ (.string ⟨#[]⟩) W1.heap.size (fun e => hgQ e.symm)).trans hg0
      obtain ⟨w3, hw3⟩ : ∃ w3, ((W1.alloc (.cells #[.string ⟨#[]⟩, .string ⟨#[]⟩, .slice none 0 0, .slice none 0 0, .string ⟨#[]⟩] 25)).setCell ⟨Q, 3, none⟩ (.slice (some ⟨W1.heap.size, 0, none⟩) 1 1)).setCell ⟨Q, 4, none⟩ (.string ⟨#[]⟩) = w3 := ⟨_, rfl⟩
      rw [hw3] at hb0 hX hg0
      have NP := HNP.out
      have HF := Lib.hid (wend (wb := false) (K := [.mk ⟨#[]⟩ ⟨#[]⟩ [] [] ⟨#[]⟩]) (A := YA) hX (HATT.out w3 hb0) (kid_new ⟨#[]⟩ hg0) (HBQ.out w3 hb0) (HEV.out w3 hb0) (HTV.out w3 hb0)
        ⟨⟨by have := NP.ss; omega, by have := NP.ns; omega, by decide, near_smA NP.ab⟩, ⟨⟨⟨by decide, by decide, by decide, fun _ h => by cases h⟩, trivial⟩, trivial⟩⟩ may_kid (fun h => by cases h))
      clear hb0 hX hg0 hgQ NP
      go_wp2_with fail
      go_meet
      exact ⟨_, rfl, HF⟩
    | 7, _ =>
      have hb0 := HB1.out.trans ((Below.refl Q W1).setCell (p := ⟨Q, 0, none⟩) (Nat.le_refl _) (.string T))
      have hX := heap_put (o := 0) (.string T) HX1.out
      have CC := Lib.hid (rtext T (W1.setCell ⟨Q, 0, none⟩ (.string T)) (by omega))
      have HB2 := Lib.hid hb0
      have HX2 := Lib.hid hX
      clear hb0 hX
      obtain ⟨x, hx⟩ : ∃ x, textL (bl T) = x := ⟨_, rfl⟩
      rw [hx] at CC
      go_wp2_with fail
      refine CC.out.mono ?_
      rintro e w3 ⟨rfl, hb⟩
      have hb3 := HB2.out.trans (hb.mono (HZ.out _ HB2.out))
      have hX3 := (hb.block Q (Array.getElem?_eq_some_iff.1 HX2.out).1).trans HX2.out
      have NP := HNP.out
      have HF := Lib.hid (wend (wb := decide (x < 0)) (K := YK) (A := YA) hX3 (HATT.out w3 hb3) (HKID.out w3 hb3) (HBQ.out w3 hb3) (HEV.out w3 hb3) (HTV.out w3 hb3)
        ⟨⟨by omega, by have := NP.ns; omega, by have := NP.ts; omega, near_smA NP.ab⟩, NP.good.2.2.2⟩ ((may_root NP.good.1 NP.good.2.1 NP.good.2.2.1).trans ((alone_space NP).trans (by unfold lettersB; rw [hx]))) (fun _ => Nat.le_trans (len_el _ _ _ _ _) (by have := NP.ns; have := NP.ts; have := NP.elA; have := NP.elK T; omega)))
      clear hb hb3 hX3 NP CC hx
      go_wp2_with fail
      go_meet
      exact ⟨_, rfl, HF⟩
    | k + 8, h => exact absurd h (by omega)
  case rest =>
    obtain ⟨wb, rfl, HW⟩ := hcut
    obtain ⟨a, b, e, p1, n1, c1, p2, n2, c2, Z, hat, hsm, hm, hl⟩ := HW.out.ex
    have H4 := Lib.hid hat
    have V4 := Lib.hid hat.below.size
    have HSM := Lib.hid hsm
    have HM := Lib.hid hm
    have HL := Lib.hid hl
    clear hat hsm hm hl HW HATT HKID HEV HTV HBQ HZ HB1 HX1 HNP hk hmask hm1 hm2 hmI hT' hTs
    have n0 := H4.out.k0
    have n1 := H4.out.k1
    have n2 := H4.out.k2
    have n3 := H4.out.k3
    have n4 := H4.out.k4
    have CC := Lib.hid (awake07 _ H4.out.ev H4.out.tv)
    go_wp2_with fail
    refine CC.out.mono ?_
    rintro r w5 ⟨rfl, hb⟩
    have H5 := Lib.hid (H4.out.to hb V4.out)
    have V5 := Lib.hid (Nat.le_trans V4.out hb.size)
    clear hb CC H4 V4 n0 n1 n2 n3 n4
    have n0 := H5.out.k0
    have n1 := H5.out.k1
    have n2 := H5.out.k2
    have n3 := H5.out.k3
    have n4 := H5.out.k4
    have CC := Lib.hid ((by have h := wmay _ _ w5 H5.out.nv HSM.out H5.out.ev H5.out.tv; rw [HM.out] at h; exact h : Calls Tryd.prog 9 #[_] w5 _))
    go_wp2_with fail
    refine CC.out.mono ?_
    rintro r w6 ⟨rfl, hb⟩
    have H6 := Lib.hid (H5.out.to hb V5.out)
    have V6 := Lib.hid (Nat.le_trans V5.out hb.size)
    clear hb CC H5 V5 n0 n1 n2 n3 n4
    have n0 := H6.out.k0
    have n1 := H6.out.k1
    have n2 := H6.out.k2
    have n3 := H6.out.k3
    have n4 := H6.out.k4
    cases wb with
    | true =>
      have hne : textT Z ⟨#[]⟩ [] ≠ [] := fun e => by
        have h1 : 1 ≤ (textT Z ⟨#[]⟩ []).length := by unfold textT; simp
        rw [e] at h1; exact absurd h1 (by decide)
      have CX := wtext Z _ w6 H6.out.nv HSM.out HM.out (HL.out (by trivial)) H6.out.ev H6.out.tv
      obtain ⟨TL, hTL⟩ : ∃ TL, textT Z ⟨#[]⟩ [] = TL := ⟨_, rfl⟩
      rw [hTL] at CX hne
      obtain ⟨S, hS⟩ : ∃ S, str TL = S := ⟨_, rfl⟩
      rw [hS] at CX
      have hq : S.toList.isEmpty = false := bl_more S (fun e => hne (List.eq_nil_of_length_eq_zero (by rw [← str_size, hS]; exact e)))
      replace CX := Lib.hid CX
      clear hne hTL hS
      go_wp2_with fail
      refine CX.out.mono ?_
      rintro r w7 ⟨rfl, hb⟩
      have HF := Lib.hid (H6.out.to hb V6.out).below
      clear hb CX n0 n1 n2 n3 n4
      go_wp2_with fail
      go_ret
      exact ⟨rfl, HF.out⟩
    | false =>
      have CX := Lib.hid (wtext_no Z _ w6 H6.out.nv HSM.out HM.out H6.out.ev H6.out.tv)
      go_wp2_with fail
      refine CX.out.mono ?_
      rintro r w7 ⟨rfl, hb⟩
      have HF := Lib.hid (H6.out.to hb V6.out).below
      clear hb CX n0 n1 n2 n3 n4
      go_wp2_with fail
      go_ret
      exact ⟨rfl, HF.out⟩

end Go.Proofs.YtincdacickhdkaaDoor
namespace Go.Proofs.YtincdacickhdkaaDoor
open Go.RowKit
set_option maxRecDepth 100000

def namedData (l : List UInt8) (c : Int) (b : Bool) : DataW Unit := .agg [.lit (.string l), .lit (.int .u8 c), .lit (.bool b)]
def namesData : DataW Unit := .agg [namedData [97, 109, 112] 38 true, namedData [108, 116] 60 true, namedData [103, 116] 62 true, namedData [113, 117, 111, 116] 34 true, namedData [97, 112, 111, 115] 39 false]
/-- A struct of a name, a letter and a mark, that reads so. -/
theorem ent_named {W : World} {fuel : Nat} {cs : List Value} {p : List MemPlace} {l : List UInt8} {c : Int} {b : Bool}
    (h : DataW.trod (fun _ => ()) Tryd.prog W 0 (fun _ => true) false fuel 95 cs = some (namedData l c b, p)) : cs = [.string ⟨l.toArray⟩, .int .u8 c, .bool b] := by
  obtain ⟨xs, n, rfl, hx, hcl, hxl, hall⟩ := DataW.trod_struct Tryd.underlying95 h
  have hc3 : Tryd.prog.cellsOf 95 = 3 := by kernel_rfl
  have hcs : Tryd.prog.cellsOf 9 = 1 := by kernel_rfl
  have hcb : Tryd.prog.cellsOf 5 = 1 := by kernel_rfl
  have hcd : Tryd.prog.cellsOf 4 = 1 := by kernel_rfl
  rw [hc3] at hcl
  have f0 : DataW.trod (fun _ => ()) Tryd.prog W 0 (fun _ => true) false n 9 ((cs.drop 0).take (Tryd.prog.cellsOf 9)) = xs[0]? := hall 0 _ rfl
  have f1 : DataW.trod (fun _ => ()) Tryd.prog W 0 (fun _ => true) false n 5 ((cs.drop 1).take (Tryd.prog.cellsOf 5)) = xs[1]? := hall 1 _ rfl
  have f2 : DataW.trod (fun _ => ()) Tryd.prog W 0 (fun _ => true) false n 4 ((cs.drop 2).take (Tryd.prog.cellsOf 4)) = xs[2]? := hall 2 _ rfl
  rw [hcs] at f0
  rw [hcb] at f1
  rw [hcd] at f2
  have hxl' : xs.length = 3 := by simpa using hxl
  match xs, hxl', cs, hcl with
  | [x0, x1, x2], _, [c0, c1, c2], _ =>
    simp at f0 f1 f2
    obtain ⟨s0, e0, d0, _⟩ := DataW.trod_string Tryd.underlying9 f0
    obtain ⟨n1, e1, d1, _⟩ := DataW.trod_int Tryd.underlying5 f1
    obtain ⟨b2, e2, d2⟩ := DataW.trod_bool Tryd.underlying4 f2
    simp at e0 e1 e2
    subst e0 e1 e2 d0 d1 d2
    unfold namedData at hx
    simp at hx
    obtain ⟨⟨h0, h1, h2⟩, _⟩ := hx
    subst h0 h1 h2
    simp
theorem ent_names {W : World} (h : Lib.VarReads Tryd.prog W "galliard/entity.names" namesData) : ∃ t fr, W.heap[0]? = some (.cells nameCells t fr) := by
  obtain ⟨g, t, cs, fuel, p, hg, ht, hv, hd⟩ := h
  have hg' : Tryd.prog.globalNamed "galliard/entity.names" = some 0 := by kernel_rfl
  obtain rfl := Option.some.inj (hg'.symm.trans hg)
  have ht' : (Tryd.prog.globals[0]?).map (·.type) = some 96 := by kernel_rfl
  obtain rfl := Option.some.inj (ht'.symm.trans ht)
  have hc3 : Tryd.prog.cellsOf 95 = 3 := by kernel_rfl
  have k0 : (cs.toList.drop 0).take 3 = [.string ⟨#[97, 109, 112]⟩, .int .u8 38, .bool true] := by
    obtain ⟨f', d, q, h1, h2⟩ := Lib.array_elem Tryd.underlying96 hd 0 (by omega)
    rw [hc3] at h2
    obtain rfl : namedData [97, 109, 112] 38 true = d := Option.some.inj h1
    exact ent_named h2
  have k1 : (cs.toList.drop 3).take 3 = [.string ⟨#[108, 116]⟩, .int .u8 60, .bool true] := by
    obtain ⟨f', d, q, h1, h2⟩ := Lib.array_elem Tryd.underlying96 hd 1 (by omega)
    rw [hc3] at h2
    obtain rfl : namedData [108, 116] 60 true = d := Option.some.inj h1
    exact ent_named h2
  have k2 : (cs.toList.drop 6).take 3 = [.string ⟨#[103, 116]⟩, .int .u8 62, .bool true] := by
    obtain ⟨f', d, q, h1, h2⟩ := Lib.array_elem Tryd.underlying96 hd 2 (by omega)
    rw [hc3] at h2
    obtain rfl : namedData [103, 116] 62 true = d := Option.some.inj h1
    exact ent_named h2
  have k3 : (cs.toList.drop 9).take 3 = [.string ⟨#[113, 117, 111, 116]⟩, .int .u8 34, .bool true] := by
    obtain ⟨f', d, q, h1, h2⟩ := Lib.array_elem Tryd.underlying96 hd 3 (by omega)
    rw [hc3] at h2
    obtain rfl : namedData [113, 117, 111, 116] 34 true = d := Option.some.inj h1
    exact ent_named h2
  have k4 : (cs.toList.drop 12).take 3 = [.string ⟨#[97, 112, 111, 115]⟩, .int .u8 39, .bool false] := by
    obtain ⟨f', d, q, h1, h2⟩ := Lib.array_elem Tryd.underlying96 hd 4 (by omega)
    rw [hc3] at h2
    obtain rfl : namedData [97, 112, 111, 115] 39 false = d := Option.some.inj h1
    exact ent_named h2
  have hlen : cs.toList.length = 15 := by
    cases fuel with
    | zero => simp [DataW.trod] at hd
    | succ fuel =>
      unfold DataW.trod at hd
      simp only [Tryd.underlying96] at hd
      split at hd
      · rename_i hl
        exact hl.trans (by kernel_rfl)
      · cases hd
  have hcs : cs = nameCells := by
    obtain ⟨L⟩ := cs
    simp only at hlen k0 k1 k2 k3 k4
    match L, hlen with
    | [a0, a1, a2, a3, a4, a5, a6, a7, a8, a9, a10, a11, a12, a13, a14], _ =>
      simp at k0 k1 k2 k3 k4
      obtain ⟨rfl, rfl, rfl⟩ := k0
      obtain ⟨rfl, rfl, rfl⟩ := k1
      obtain ⟨rfl, rfl, rfl⟩ := k2
      obtain ⟨rfl, rfl, rfl⟩ := k3
      obtain ⟨rfl, rfl, rfl⟩ := k4
      rfl
  subst hcs
  unfold World.var? at hv
  rw [hg'] at hv
  simp only [Option.bind_some] at hv
  split at hv
  · rename_i cs' t fr heq
    obtain rfl := Option.some.inj hv
    exact ⟨t, fr, heq⟩
  · cases hv
theorem entV_of {W : World} (h1 : Lib.VarReads Tryd.prog W "galliard/entity.names" namesData) : EntV W := ⟨ent_names h1⟩

end Go.Proofs.YtincdacickhdkaaDoor
namespace Go.Proofs.YtincdacickhdkaaDoor
open Go Go.RowKit Go.ChangeShapes Go.Deep
set_option maxRecDepth 100000

theorem ncell_lt {w : World} {b o : Nat} {v : Value} (h : w.cell? ⟨b, o, none⟩ = some v) : b < w.heap.size := World.block_lt_of_cell? w _ h
/-- Elements one by one are a list of them. -/
theorem nodes_list {P : Nat → Prop} {w : World} {c : Nat → Nat → Value} : ∀ m : Nat, (∀ j, j < m → ∃ x, NodeV P w (.agg #[c j 0, c j 1, c j 2, c j 3, c j 4]) x) → ∃ K : List Nd, K.length = m ∧ ∀ j (h : j < K.length), NodeV P w (.agg #[c j 0, c j 1, c j 2, c j 3, c j 4]) (K[j]'h)
  | 0, _ => ⟨[], rfl, fun j h => absurd h (Nat.not_lt_zero j)⟩
  | m + 1, h => by
    obtain ⟨K, hl, hK⟩ := nodes_list m fun j hj => h j (by omega)
    obtain ⟨x, hx⟩ := h m (by omega)
    refine ⟨K ++ [x], by rw [List.length_append, hl]; rfl, fun j hj => ?_⟩
    by_cases hjm : j < K.length
    · rw [List.getElem_append_left hjm]; exact hK j hjm
    · have e : j = m := by rw [List.length_append] at hj; have : ([x] : List Nd).length = 1 := rfl; omega
      subst e
      rw [List.getElem_append_right (by omega)]
      simp only [List.getElem_singleton]
      exact hx
/-- Attributes one by one are a list of them. -/
theorem atts_list {w : World} {b off : Nat} : ∀ m : Nat, (∀ j, j < m → ∃ n v : ByteArray, w.cell? ⟨b, off + j * 2, none⟩ = some (.string n) ∧ w.cell? ⟨b, off + j * 2 + 1, none⟩ = some (.string v)) →
    ∃ A : List Att, A.length = m ∧ ∀ j (h : j < A.length), w.cell? ⟨b, off + j * 2, none⟩ = some (.string (A[j]'h).1) ∧ w.cell? ⟨b, off + j * 2 + 1, none⟩ = some (.string (A[j]'h).2)
  | 0, _ => ⟨[], rfl, fun j h => absurd h (Nat.not_lt_zero j)⟩
  | m + 1, h => by
    obtain ⟨A, hl, hA⟩ := atts_list m fun j hj => h j (by omega)
    obtain ⟨n, v, hx⟩ := h m (by omega)
    refine ⟨A ++ [(n, v)], by rw [List.length_append, hl]; rfl, fun j hj => ?_⟩
    by_cases hjm : j < A.length
    · rw [List.getElem_append_left hjm]; exact hA j hjm
    · have e : j = m := by rw [List.length_append] at hj; have : ([(n, v)] : List Att).length = 1 := rfl; omega
      subst e
      rw [List.getElem_append_right (by omega)]
      simp only [List.getElem_singleton]
      exact hx
theorem cells_five {cs : List Value} (h : cs.length = 5) : ∃ a b c d e, cs = [a, b, c, d, e] := by
  match cs, h with
  | [a, b, c, d, e], _ => exact ⟨a, b, c, d, e, rfl⟩
theorem atts_trod {H : Type} {enc : TypeId × Value → H} {W : World} {fuel : Nat} {c : Value} {x : DataW H × List MemPlace} (h : DataW.trod enc Tryd.prog W 0 (fun _ => true) true fuel 22 [c] = some x) : ∃ A, AttV (fun _ => True) W c A := by
  rcases open_slice Tryd.underlying22 h with ⟨hcs, hx⟩ | ⟨a, len, cap, m, nn, D, Pl, hcs, _, hl, hm, hmm, hx, hi⟩
  · simp at hcs
    exact ⟨[], none, 0, hcs, fun h => absurd h (Nat.lt_irrefl _), Nat.le_refl _⟩
  · simp at hcs
    subst hcs
    simp only [if_true] at hmm
    have hC : Tryd.prog.cellsOf 31 = 2 := by kernel_rfl
    have hone : Tryd.prog.cellsOf 9 = 1 := by kernel_rfl
    have hget : ∀ i, i < len → ∀ q, q < 2 → ∃ z : ByteArray, W.cell? ((a.add (i * 2)).add q) = some (.string z) := fun i hin q hq => by
      obtain ⟨cs', h1, h2⟩ := hi i (by omega)
      rw [hC] at h1
      obtain ⟨ys, n', _, _, hlen, hyl, hfl⟩ := DataW.trod_struct Tryd.underlying31 h2
      obtain ⟨_, hcl, hat⟩ := World.cells?_some h1
      obtain ⟨y0, y1, rfl⟩ : ∃ y0 y1, ys = [y0, y1] := by
        match ys, hyl with
        | [y0, y1], _ => exact ⟨y0, y1, rfl⟩
      have e0 := hfl 0 _ rfl
      have e1 := hfl 1 _ rfl
      change DataW.trod enc Tryd.prog W 0 (fun _ => true) true n' 9 ((cs'.drop 0).take (Tryd.prog.cellsOf 9)) = some y0 at e0
      change DataW.trod enc Tryd.prog W 0 (fun _ => true) true n' 9 ((cs'.drop 1).take (Tryd.prog.cellsOf 9)) = some y1 at e1
      rw [hone] at e0 e1
      obtain ⟨z0, hz0, _, _⟩ := DataW.trod_string Tryd.underlying9 e0
      obtain ⟨z1, hz1, _, _⟩ := DataW.trod_string Tryd.underlying9 e1
      obtain ⟨c0, c1, rfl⟩ : ∃ c0 c1, cs' = [c0, c1] := by
        match cs', hcl with
        | [c0, c1], _ => exact ⟨c0, c1, rfl⟩
      simp at hz0 hz1
      subst hz0 hz1
      have hc := hat q hq
      match q, hq with
      | 0, _ => exact ⟨z0, hc⟩
      | 1, _ => exact ⟨z1, hc⟩
    by_cases hpos : 0 < len
    · obtain ⟨b, off, spot⟩ := a
      obtain ⟨zz, hzz⟩ := hget 0 hpos 0 (by decide)
      have hspot : spot = none := by simpa [Addr.add] using World.cell?_spot hzz
      subst hspot
      have hc : ∀ i, i < len → ∀ q, q < 2 → ∃ z : ByteArray, W.cell? ⟨b, off + i * 2 + q, none⟩ = some (.string z) := fun i hi q hq => by
        obtain ⟨z, hz⟩ := hget i hi q hq
        rw [Go.WideShapes.add_plain, Go.WideShapes.add_plain] at hz
        exact ⟨z, hz⟩
      obtain ⟨A, hA, hAc⟩ := atts_list (w := W) (b := b) (off := off) len fun j hj => by
        obtain ⟨n, hn⟩ := hc j hj 0 (by decide)
        obtain ⟨v, hv⟩ := hc j hj 1 (by decide)
        exact ⟨n, v, hn, hv⟩
      obtain ⟨z0, hz0⟩ := hc 0 hpos 0 (by decide)
      exact ⟨A, some ⟨b, off, none⟩, cap, by rw [hA], fun _ => ⟨b, off, rfl, trivial, ncell_lt hz0, hAc⟩, by rw [hA]; exact hl⟩
    · have e : len = 0 := by omega
      subst e
      exact ⟨[], some a, cap, rfl, fun h => absurd h (Nat.lt_irrefl _), Nat.zero_le _⟩
theorem node_trod {H : Type} {enc : TypeId × Value → H} {W : World} : ∀ (f fuel : Nat), fuel ≤ f → ∀ (cs : List Value) (x : DataW H × List MemPlace), DataW.trod enc Tryd.prog W 0 (fun _ => true) true fuel 25 cs = some x →
    ∃ (c0 c1 c2 c3 c4 : Value) (X : Nd), cs = [c0, c1, c2, c3, c4] ∧ NodeV (fun _ => True) W (.agg #[c0, c1, c2, c3, c4]) X
  | 0, fuel, hf, cs, x, h => by
    obtain ⟨ys, n', hfu, _⟩ := DataW.trod_struct Tryd.underlying25 h
    omega
  | f + 1, fuel, hf, cs, x, h => by
    obtain ⟨ys, n', hfu, _, hlen, hyl, hfl⟩ := DataW.trod_struct Tryd.underlying25 h
    have hC : Tryd.prog.cellsOf 25 = 5 := by kernel_rfl
    have h1s : Tryd.prog.cellsOf 9 = 1 := by kernel_rfl
    have h1a : Tryd.prog.cellsOf 22 = 1 := by kernel_rfl
    have h1n : Tryd.prog.cellsOf 23 = 1 := by kernel_rfl
    rw [hC] at hlen
    obtain ⟨c0, c1, c2, c3, c4, rfl⟩ := cells_five hlen
    obtain ⟨y0, y1, y2, y3, y4, rfl⟩ : ∃ y0 y1 y2 y3 y4, ys = [y0, y1, y2, y3, y4] := by
      match ys, hyl with
      | [y0, y1, y2, y3, y4], _ => exact ⟨y0, y1, y2, y3, y4, rfl⟩
    have e0 := hfl 0 _ rfl
    have e1 := hfl 1 _ rfl
    have e2 := hfl 2 _ rfl
    have e3 := hfl 3 _ rfl
    have e4 := hfl 4 _ rfl
    change DataW.trod enc Tryd.prog W 0 (fun _ => true) true n' 9 (([c0, c1, c2, c3, c4].drop 0).take (Tryd.prog.cellsOf 9)) = some y0 at e0
    change DataW.trod enc Tryd.prog W 0 (fun _ => true) true n' 9 (([c0, c1, c2, c3, c4].drop 1).take (Tryd.prog.cellsOf 9)) = some y1 at e1
    change DataW.trod enc Tryd.prog W 0 (fun _ => true) true n' 22 (([c0, c1, c2, c3, c4].drop 2).take (Tryd.prog.cellsOf 22)) = some y2 at e2
    change DataW.trod enc Tryd.prog W 0 (fun _ => true) true n' 23 (([c0, c1, c2, c3, c4].drop 3).take (Tryd.prog.cellsOf 23)) = some y3 at e3
    change DataW.trod enc Tryd.prog W 0 (fun _ => true) true n' 9 (([c0, c1, c2, c3, c4].drop 4).take (Tryd.prog.cellsOf 9)) = some y4 at e4
    rw [h1s] at e0 e1 e4
    rw [h1a] at e2
    rw [h1n] at e3
    simp only [List.drop_zero, List.drop_succ_cons, List.take_succ_cons, List.take_zero] at e0 e1 e2 e3 e4
    obtain ⟨s0, hs0, _, _⟩ := DataW.trod_string Tryd.underlying9 e0
    obtain ⟨s1, hs1, _, _⟩ := DataW.trod_string Tryd.underlying9 e1
    obtain ⟨s4, hs4, _, _⟩ := DataW.trod_string Tryd.underlying9 e4
    simp at hs0 hs1 hs4
    subst hs0 hs1 hs4
    obtain ⟨A, hA⟩ := atts_trod e2
    refine ⟨.string s0, .string s1, c2, c3, .string s4, ?_⟩
    rcases DataW.trod_slice Tryd.underlying23 e3 with ⟨hcs, _⟩ | ⟨a, len, cap, elems, rest, n2, hn2, hcs, _, _, hl, hm, hel, hi, _⟩
    · simp at hcs
      subst hcs
      exact ⟨.mk s0 s1 A [] s4, rfl, .mk s0 s1 s4 A [] c2 none 0 (fun _ _ => undef) hA (fun h => absurd h (Nat.lt_irrefl _)) (fun j h => absurd h (Nat.not_lt_zero j))⟩
    · simp at hcs
      subst hcs
      rw [hC] at hi
      have hnode : ∀ j, j < len → ∃ c0 c1 c2 c3 c4 X, NodeV (fun _ => True) W (.agg #[c0, c1, c2, c3, c4]) X ∧ ∀ q, q < 5 → W.cell? ((a.add (j * 5)).add q) = [c0, c1, c2, c3, c4][q]? := fun j hj => by
        have h1 := hi j hj
        rw [List.getElem?_eq_getElem (by omega), Option.bind_eq_some_iff] at h1
        obtain ⟨cs', h2, h3⟩ := h1
        obtain ⟨_, hcl, hat⟩ := World.cells?_some h2
        obtain ⟨d0, d1, d2, d3, d4, X, rfl, hX⟩ := node_trod f n2 (by omega) cs' _ h3
        exact ⟨d0, d1, d2, d3, d4, X, hX, hat⟩
      by_cases hpos : 0 < len
      · obtain ⟨b, off, spot⟩ := a
        have hspot : spot = none := by
          obtain ⟨d0, d1, d2, d3, d4, X, _, hq⟩ := hnode 0 hpos
          have := hq 0 (by decide)
          simpa [Addr.add] using World.cell?_spot this
        subst hspot
        have hcell : ∀ j, j < len → ∃ X, NodeV (fun _ => True) W (.agg #[(W.cell? ⟨b, off + j * 5 + 0, none⟩).getD undef, (W.cell? ⟨b, off + j * 5 + 1, none⟩).getD undef, (W.cell? ⟨b, off + j * 5 + 2, none⟩).getD undef, (W.cell? ⟨b, off + j * 5 + 3, none⟩).getD undef, (W.cell? ⟨b, off + j * 5 + 4, none⟩).getD undef]) X ∧
            ∀ q, q < 5 → W.cell? ⟨b, off + j * 5 + q, none⟩ = some ((W.cell? ⟨b, off + j * 5 + q, none⟩).getD undef) := fun j hj => by
          obtain ⟨d0, d1, d2, d3, d4, X, hX, hq⟩ := hnode j hj
          have hq' : ∀ q, q < 5 → W.cell? ⟨b, off + j * 5 + q, none⟩ = [d0, d1, d2, d3, d4][q]? := fun q h => by
            have := hq q h
            rw [Go.WideShapes.add_plain, Go.WideShapes.add_plain] at this
            exact this
          refine ⟨X, ?_, fun q h => ?_⟩
          · rw [hq' 0 (by decide), hq' 1 (by decide), hq' 2 (by decide), hq' 3 (by decide), hq' 4 (by decide)]
            exact hX
          · rw [hq' q h]
            match q, h with
            | 0, _ => rfl
            | 1, _ => rfl
            | 2, _ => rfl
            | 3, _ => rfl
            | 4, _ => rfl
        obtain ⟨K, hK, hKn⟩ := nodes_list (P := fun _ => True) (w := W) (c := fun j q => (W.cell? ⟨b, off + j * 5 + q, none⟩).getD undef) len fun j hj => by
          obtain ⟨X, hX, _⟩ := hcell j hj
          exact ⟨X, hX⟩
        subst hK
        refine ⟨.mk s0 s1 A K s4, rfl, .mk s0 s1 s4 A K c2 (some ⟨b, off, none⟩) cap (fun j q => (W.cell? ⟨b, off + j * 5 + q, none⟩).getD undef) hA (fun _ => ⟨b, off, rfl, trivial, ?_, fun j hj q hq => ?_⟩) hKn⟩
        · obtain ⟨_, _, hc⟩ := hcell 0 hpos
          exact ncell_lt (hc 0 (by decide))
        · obtain ⟨_, _, hc⟩ := hcell j hj
          exact hc q hq
      · have e : len = 0 := by omega
        subst e
        exact ⟨.mk s0 s1 A [] s4, rfl, .mk s0 s1 s4 A [] c2 (some a) cap (fun _ _ => undef) hA (fun h => absurd h (Nat.lt_irrefl _)) (fun j h => absurd h (Nat.not_lt_zero j))⟩
/-- An element that was handed in. -/
theorem node_open {H : Type} {enc : TypeId × Value → H} {W : World} {cs : Array Value} {d : DataW H} {p : List MemPlace} (h : DataW.Trod enc Tryd.prog W 0 (fun _ => true) true 25 (.agg cs) d p) : ∃ X, NodeV (fun _ => True) W (.agg cs) X := by
  obtain ⟨fuel, hf⟩ := h
  obtain ⟨c0, c1, c2, c3, c4, X, hcs, hX⟩ := node_trod fuel fuel (Nat.le_refl _) _ _ hf
  have e : cs = #[c0, c1, c2, c3, c4] := by
    have : cs.toList = [c0, c1, c2, c3, c4] := hcs
    rw [← Array.toArray_toList (xs := cs), this]
  exact ⟨X, by rw [e]; exact hX⟩
end Go.Proofs.YtincdacickhdkaaDoor
