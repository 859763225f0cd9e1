package factset_test

import (
	"maps"
	"math/rand"
	"slices"
	"testing"

	"royalty/api"
	"royalty/factset"
)

// group is some sets, and what they should be. The first one is nil.
type group struct {
	sets   []*factset.Set
	models []model
	known  []api.Fact
}

// newGroup returns four sets, and the facts that they may have. The last set lacks two facts to the limit.
func newGroup(t *testing.T) group {
	most := revenues(1000, 1000+api.MaxFacts-2)
	return group{
		sets:   []*factset.Set{nil, factset.New(), factset.New(), setOf(t, most)},
		models: []model{{}, {}, {}, modelOf(most)},
		known:  slices.Concat(samples(), revenues(0, 20), most[:5]),
	}
}

// add adds a fact, valid or not, to set i.
func (g group) add(t *testing.T, r *rand.Rand, i int) {
	m := g.models[i]
	f := g.known[r.Intn(len(g.known))]
	id := idOf(f)
	_, has := m[id]
	bad := r.Intn(8) == 0
	if bad {
		f.Version = 0
	}
	switch {
	case i == 0:
		checkAdd(t, g.sets[i], f, false, api.ErrNil)
	case bad:
		checkAdd(t, g.sets[i], f, false, api.ErrSet)
	case has:
		checkAdd(t, g.sets[i], f, false, api.OK)
	case len(m) == api.MaxFacts:
		checkAdd(t, g.sets[i], f, false, api.ErrSet)
	default:
		checkAdd(t, g.sets[i], f, true, api.OK)
		m[id] = f
	}
}

// unite unites set i with set j.
func (g group) unite(t *testing.T, i int, j int) {
	if i == 0 || j == 0 {
		checkUnion(t, g.sets[i], g.sets[j], api.ErrNil)
		return
	}
	both := maps.Clone(g.models[i])
	maps.Copy(both, g.models[j])
	if len(both) > api.MaxFacts {
		checkUnion(t, g.sets[i], g.sets[j], api.ErrSet)
		return
	}
	checkUnion(t, g.sets[i], g.sets[j], api.OK)
	g.models[i] = both
}

// take asks set i for a part, and puts it in place of set 2 if there is one.
func (g group) take(t *testing.T, r *rand.Rand, i int) {
	ids, missing, part := []string{}, []string{}, model{}
	for range r.Intn(5) {
		f := g.known[r.Intn(len(g.known))]
		id := idOf(f)
		ids = append(ids, id)
		if _, has := g.models[i][id]; has {
			part[id] = f
		} else {
			missing = append(missing, id)
		}
	}
	slices.Sort(missing)
	missing = slices.Compact(missing)
	checkMissing(t, g.sets[i], ids, missing)
	if i == 0 || len(missing) > 0 {
		checkNoPart(t, g.sets[i], ids)
		return
	}
	checkPart(t, g.sets[i], ids, part)
	g.sets[2], _ = g.sets[i].Part(ids)
	g.models[2] = part
}

// TestCalls makes calls at random, on sets that share facts.
func TestCalls(t *testing.T) {
	for seed := range 20 {
		r := rand.New(rand.NewSource(int64(seed)))
		g := newGroup(t)
		for range 150 {
			i, j := r.Intn(4), r.Intn(4)
			switch r.Intn(6) {
			case 0:
				g.take(t, r, i)
			case 1:
				// A set that has taken up the great one has no room for the others any more.
				if j < 3 || r.Intn(50) == 0 {
					g.unite(t, i, j)
				}
			default:
				g.add(t, r, i)
			}
			if small := 1 + r.Intn(2); len(g.models[small]) < 100 {
				checkSet(t, g.sets[small], g.models[small])
			}
		}
		for i := 1; i < 4; i++ {
			checkSet(t, g.sets[i], g.models[i])
		}
	}
}
